/-
  CONTRACTS OF A DICTIONARY THAT IS NOT THERE, or as one.
-/
import Derived.Test.YtlamdhklfibjmaaDoorDictKnown
namespace Go.Proofs.YtlamdhklfibjmaaDoor
open Go.RowKit
open Utf Term
set_option linter.unusedVariables false
set_option linter.unusedSimpArgs false

/-- Nil, or one without a table. -/
def NoneAt (W : World) (v : Value) : Prop := v = .pointer none ∨ ∃ z, v = .pointer (some ⟨z, 0, none⟩) ∧ W.cell? ⟨z, 3, none⟩ = some (.slice none 0 0)
theorem NoneAt.below {w w' : World} {v : Value} (h : NoneAt w v) (k : Below w.heap.size w w') : NoneAt w' v :=
  h.imp id fun ⟨z, h1, h2⟩ => ⟨z, h1, cell_below k h2⟩
theorem isNone_at {v : Value} {w : World} (h : NoneAt w v) : Calls Tryd.prog 20 #[v] w fun e w' => e = .returned (.bool true) ∧ w = w' := by
  rcases h with rfl | ⟨z, rfl, h⟩
  · exact isNone_nil w
  · exact isNone_zero z w h

set_option maxRecDepth 100000 in
theorem lenN {v : Value} {w : World} (h : NoneAt w v) : Calls Tryd.prog 8 #[v] w fun e w' => e = .returned (.int .i64 0) ∧ w = w' := by
  have M := Lib.hid (isNone_at h)
  clear h
  go_enter Tryd.func8, Tryd.ntmps8
  go_wp2_with (go_at_call 20; refine M.out.mono ?_; rintro e w' ⟨rfl, rfl⟩)
  go_ret
  exact ⟨rfl, rfl⟩
set_option maxRecDepth 100000 in
theorem limitN {v : Value} {w : World} (h : NoneAt w v) : Calls Tryd.prog 15 #[v] w fun e w' => e = .returned (.int .i64 0) ∧ w = w' := by
  have M := Lib.hid (isNone_at h)
  clear h
  go_enter Tryd.func15, Tryd.ntmps15
  go_wp2_with (go_at_call 20; refine M.out.mono ?_; rintro e w' ⟨rfl, rfl⟩)
  go_ret
  exact ⟨rfl, rfl⟩
set_option maxRecDepth 100000 in
theorem cutN {v : Value} {w : World} (h : NoneAt w v) (q : Int) : Calls Tryd.prog 13 #[v, .int .i64 q] w fun e w' => e = .returned (.int .i64 1) ∧ w = w' := by
  have M := Lib.hid (isNone_at h)
  clear h
  go_enter Tryd.func13, Tryd.ntmps13
  go_wp2_with (go_at_call 20; refine M.out.mono ?_; rintro e w' ⟨rfl, rfl⟩)
  go_ret
  exact ⟨rfl, rfl⟩
set_option maxRecDepth 100000 in
theorem setLimitN {v : Value} {w : World} (h : NoneAt w v) (q : Int) : Calls Tryd.prog 16 #[v, .int .i64 q] w fun e w' => e = .returned (.int .i64 1) ∧ w = w' := by
  have M := Lib.hid (isNone_at h)
  clear h
  go_enter Tryd.func16, Tryd.ntmps16
  go_wp2_with (go_at_call 20; refine M.out.mono ?_; rintro e w' ⟨rfl, rfl⟩)
  go_ret
  exact ⟨rfl, rfl⟩
set_option maxRecDepth 100000 in
theorem copyN {v : Value} {w : World} (h : NoneAt w v) : Calls Tryd.prog 17 #[v] w fun e w' => e = .returned (.pointer none) ∧ w = w' := by
  have M := Lib.hid (isNone_at h)
  clear h
  go_enter Tryd.func17, Tryd.ntmps17
  go_wp2_with (go_at_call 20; refine M.out.mono ?_; rintro e w' ⟨rfl, rfl⟩)
  go_ret
  exact ⟨rfl, rfl⟩
set_option maxRecDepth 100000 in
theorem findN {v : Value} {w : World} (h : NoneAt w v) (a : TermD) : Calls Tryd.prog 11 #[v, termD a] w fun e w' => e = .returned (.tuple #[.int .u32 0, .bool false]) ∧ Below w.heap.size w w' := by
  have HB := Lib.hid (below_new w (.cells #[.int .i64 a.1, .string a.2.1, .string a.2.2] 34))
  have M := Lib.hid (isNone_at (h.below HB.out))
  clear h
  go_enter Tryd.func11, Tryd.ntmps11
  go_wp2_with (go_at_call 20; refine M.out.mono ?_; rintro e w' ⟨rfl, rfl⟩)
  go_ret2
  exact ⟨rfl, HB.out⟩
set_option maxRecDepth 100000 in
theorem internN {v : Value} {w : World} (h : NoneAt w v) (a : TermD) : Calls Tryd.prog 9 #[v, termD a] w fun e w' => e = .returned (.tuple #[.int .u32 0, .int .i64 1]) ∧ Below w.heap.size w w' := by
  have HB := Lib.hid (below_new w (.cells #[.int .i64 a.1, .string a.2.1, .string a.2.2] 34))
  have M := Lib.hid (isNone_at (h.below HB.out))
  clear h
  go_enter Tryd.func9, Tryd.ntmps9
  go_wp2_with (go_at_call 20; refine M.out.mono ?_; rintro e w' ⟨rfl, rfl⟩)
  go_ret2
  exact ⟨rfl, HB.out⟩
set_option maxRecDepth 100000 in
theorem termN {v : Value} {w : World} (h : NoneAt w v) : Calls Tryd.prog 10 #[v, .int .u32 1] w fun e w' => e = .returned (.tuple #[.agg #[.int .i64 0, .string ⟨#[]⟩, .string ⟨#[]⟩], .bool false]) ∧ Below w.heap.size w w' := by
  have HB := Lib.hid (below_new w (.cells #[.int .i64 0, .string ⟨#[]⟩, .string ⟨#[]⟩] 34))
  have M := Lib.hid (lenN (h.below HB.out))
  have HH : Hid ((w.alloc (.cells #[.int .i64 0, .string ⟨#[]⟩, .string ⟨#[]⟩] 34)).heap[w.heap.size]? = some (.cells #[.int .i64 0, .string ⟨#[]⟩, .string ⟨#[]⟩] 34 (0, 0))) := Lib.hid (heap_alloc_new w _)
  clear h
  have w1 : IntKind.u64.wrap 1 = 1 := rfl
  have w0 : IntKind.u64.wrap 0 = 0 := rfl
  go_enter Tryd.func10, Tryd.ntmps10
  go_wp2_with (go_at_call 8; refine M.out.mono ?_; rintro e w' ⟨rfl, rfl⟩)
  refine bodyPost_ret (results_cell_row_tmp rfl _ _ _ w.heap.size 34 #[.int .i64 0, .string ⟨#[]⟩, .string ⟨#[]⟩] (0, 0) _ rfl HH.out Tryd.underlying34 (by kernel_rfl)) rfl ?_
  exact ⟨rfl, HB.out⟩
set_option maxRecDepth 100000 in
theorem termsN {v : Value} {w : World} (h : NoneAt w v) : Calls Tryd.prog 14 #[v] w fun e w' => e = .returned (.func (.func 30) #[] #[.pointer (some ⟨w.heap.size, 0, none⟩)]) ∧ w' = w.alloc (.cells #[.slice none 0 0, .slice none 0 0] 47) := by
  have HB := Lib.hid (below_new w (.cells #[.slice none 0 0, .slice none 0 0] 47))
  have M := Lib.hid (isNone_at (h.below HB.out))
  clear h
  go_enter Tryd.func14, Tryd.ntmps14
  go_wp2_with (go_at_call 20; refine M.out.mono ?_; rintro e w' ⟨rfl, rfl⟩)
  go_ret
  exact ⟨rfl, rfl⟩

set_option maxRecDepth 100000 in
/-- The iteration over no terms: no round. -/
theorem termsStep (y : Value) (B : Nat) (w : World) (h : w.heap[B]? = some (.cells #[.slice none 0 0, .slice none 0 0] 47 (0, 0))) : Calls Tryd.prog 30 #[y, .pointer (some ⟨B, 0, none⟩)] w fun e w' => (∃ u, e = .returned u) ∧ Below w.heap.size w w' := by
  have c0 := cell_in h (j := 0) rfl
  have c1 := cell_in h (j := 1) rfl
  have M := Lib.hid (listLen_any (.slice none 0 0) none 0 0 w)
  clear h
  go_enter Tryd.func30, Tryd.ntmps30
  go_wp2_with fail
  refine wp_loop_rounds 1 ?_
  rw [rounds_succ]
  go_wp2_with (go_at_call 21; refine M.out.mono ?_; rintro e w1 ⟨rfl, hB⟩)
  go_end0
  exact ⟨⟨_, rfl⟩, hB⟩
end Go.Proofs.YtlamdhklfibjmaaDoor
