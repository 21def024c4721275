/-
  CONTRACTS OF THE REFERENCE's Text, of a term that may be.
-/
import Derived.Test.YtdcfjopijblndaaDoorRefWritten
namespace Go.Proofs.YtdcfjopijblndaaDoor
open Go.RowKit
open Utf Term
set_option linter.unusedVariables false
set_option linter.unusedSimpArgs false

set_option maxRecDepth 100000 in
set_option maxHeartbeats 1000000 in
theorem reftext_1 (t x : ByteArray) (ht : t.size ≤ 9000) (hx : x.size ≤ 9000) (w : World) :
    Calls Tryd.prog 19 #[termV 1 t x] w fun e w' => e = .returned (.string (strOfNums (textL 1 t x))) ∧ Below w.heap.size w w' := by
  go_enter Tryd.func19, Tryd.ntmps19
  go_wp2
  go_ret
  refine ⟨ret_str (strOf_eq ?_), (Below.refl _ _).alloc (Nat.le_refl _) _⟩
  rw [bs_app, bs_app]
  rfl
set_option maxRecDepth 100000 in
set_option maxHeartbeats 1000000 in
theorem reftext_2 (t x : ByteArray) (ht : t.size ≤ 9000) (hx : x.size ≤ 9000) (w : World) :
    Calls Tryd.prog 19 #[termV 2 t x] w fun e w' => e = .returned (.string (strOfNums (textL 2 t x))) ∧ Below w.heap.size w w' := by
  go_enter Tryd.func19, Tryd.ntmps19
  go_wp2
  go_ret
  refine ⟨ret_str (strOf_eq ?_), (Below.refl _ _).alloc (Nat.le_refl _) _⟩
  rw [bs_app]
  rfl
set_option maxRecDepth 100000 in
set_option maxHeartbeats 1000000 in
theorem reftext_3 (t x : ByteArray) (ht : t.size ≤ 9000) (hx : x.size ≤ 9000) (w : World) :
    Calls Tryd.prog 19 #[termV 3 t x] w fun e w' => e = .returned (.string (strOfNums (textL 3 t x))) ∧ Below w.heap.size w w' := by
  have CQ := fun W => written_any t ht W
  go_enter Tryd.func19, Tryd.ntmps19
  go_wp2_with (go_at_call 42; refine (CQ _).mono ?_; rintro e w3 ⟨rfl, hB3⟩)
  go_ret
  exact ⟨rfl, text_below (Below.refl _ _) hB3⟩
set_option maxRecDepth 100000 in
set_option maxHeartbeats 1000000 in
theorem reftext_4 (t x : ByteArray) (ht : t.size ≤ 9000) (hx : x.size ≤ 9000) (w : World) :
    Calls Tryd.prog 19 #[termV 4 t x] w fun e w' => e = .returned (.string (strOfNums (textL 4 t x))) ∧ Below w.heap.size w w' := by
  have CQ := fun W => written_any t ht W
  have hq := quote_size t (by omega)
  have HQ := Lib.hid (bs_quote t)
  generalize strOfNums (quoteL (bs t)) = Q at *
  go_enter Tryd.func19, Tryd.ntmps19
  go_wp2
  go_region_with (go_at_call 42; refine (CQ _).mono ?_; rintro e w3 ⟨rfl, hB3⟩; obtain ⟨q0, q1, q2⟩ := box_cells hB3)
  all_goals
    go_wp2
    go_ret
    refine ⟨ret_str (strOf_eq ?_), may_below hB3 (Below.refl _ _)⟩
    rw [bs_app, bs_app, HQ.out]
    show _ ++ [64] ++ _ = quoteL (bs t) ++ 64 :: bs x
    simp
set_option maxRecDepth 100000 in
set_option maxHeartbeats 1000000 in
theorem reftext_5 (t x : ByteArray) (ht : t.size ≤ 9000) (hx : x.size ≤ 9000) (w : World) :
    Calls Tryd.prog 19 #[termV 5 t x] w fun e w' => e = .returned (.string (strOfNums (textL 5 t x))) ∧ Below w.heap.size w w' := by
  have CQ := fun W => written_any t ht W
  have hq := quote_size t (by omega)
  have HQ := Lib.hid (bs_quote t)
  generalize strOfNums (quoteL (bs t)) = Q at *
  go_enter Tryd.func19, Tryd.ntmps19
  go_wp2
  go_region_with (go_at_call 42; refine (CQ _).mono ?_; rintro e w3 ⟨rfl, hB3⟩; obtain ⟨q0, q1, q2⟩ := box_cells hB3)
  all_goals
    go_wp2
    go_ret
    refine ⟨ret_str (strOf_eq ?_), may_below hB3 (Below.refl _ _)⟩
    rw [bs_app, bs_app, bs_app, HQ.out]
    show _ ++ [94, 94, 60] ++ _ ++ [62] = quoteL (bs t) ++ 94 :: 94 :: 60 :: (bs x ++ [62])
    simp
theorem reftext_any (k : Int) (t x : ByteArray) (hk : mayS k t x = true) (ht : t.size ≤ 9000) (hx : x.size ≤ 9000) (w : World) :
    Calls Tryd.prog 19 #[termV k t x] w fun e w' => e = .returned (.string (strOfNums (textL k t x))) ∧ Below w.heap.size w w' := by
  by_cases h1 : k = 1
  · subst h1; exact reftext_1 t x ht hx w
  by_cases h2 : k = 2
  · subst h2; exact reftext_2 t x ht hx w
  by_cases h3 : k = 3
  · subst h3; exact reftext_3 t x ht hx w
  by_cases h4 : k = 4
  · subst h4; exact reftext_4 t x ht hx w
  by_cases h5 : k = 5
  · subst h5; exact reftext_5 t x ht hx w
  · unfold mayS at hk
    rw [if_neg h1, if_neg h2, if_neg h3, if_neg h4, if_neg h5] at hk
    cases hk
end Go.Proofs.YtdcfjopijblndaaDoor
