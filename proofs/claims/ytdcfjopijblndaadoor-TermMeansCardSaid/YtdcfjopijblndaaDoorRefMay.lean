/-
  THE CONTRACT OF THE REFERENCE's May.
-/
import Derived.Test.YtdcfjopijblndaaDoorRefTag
namespace Go.Proofs.YtdcfjopijblndaaDoor
open Go.RowKit
open Utf Term
set_option linter.unusedVariables false

theorem xsd_ne {x : ByteArray} (h : bs x ≠ xsd) : ¬ x.toList = [104, 116, 116, 112, 58, 47, 47, 119, 119, 119, 46, 119, 51, 46, 111, 114, 103, 47, 50, 48, 48, 49, 47, 88, 77, 76, 83, 99, 104, 101, 109, 97, 35, 115, 116, 114, 105, 110, 103] := by
  intro e
  refine h ?_
  rw [toList_eq] at e
  rw [bs_data, e]
  rfl
theorem noExtra_e : noExtra ByteArray.empty = true := rfl
theorem noExtra_n {x : ByteArray} (h : 0 < x.size) : noExtra x = false := by unfold noExtra; rw [decide_eq_false (by omega)]
theorem size_of_value {t : ByteArray} (h : t.size ≤ 4000) : isValueB (bs t) = valid (bs t) := by unfold isValueB; rw [bs_length, decide_eq_true h, Bool.true_and]
theorem size_of_long {t : ByteArray} (h : ¬ t.size ≤ 4000) : isValueB (bs t) = false := by unfold isValueB; rw [bs_length, decide_eq_false h, Bool.false_and]

set_option maxRecDepth 100000 in
set_option maxHeartbeats 1000000 in
theorem refmay_1a0 (k : Int) (t x : ByteArray) (ht : t.size ≤ 9000) (hx : x.size ≤ 9000) (w : World) (hA : t.size ≤ 4000) (hi : isIRIB (bs t) = true) (hx0 : x = ByteArray.empty) :
    Calls Tryd.prog 13 #[termV 1 t x] w fun e w' => e = .returned (.bool (true)) ∧ Below w.heap.size w w' := by
  have d4 : decide ((t.size : Int) ≤ 4000) = true := by simp; omega
  have CV := fun W => refvalid_any t ht W
  have CI := fun W => refIRI_any t ht W
  rw [hi] at CI
  have he : ByteArray.empty.toList.isEmpty = true := by rw [← decide_eq_emptyBytes]; simp
  subst hx0
  clear hi
  generalize valid (bs t) = v at *
  go_enter Tryd.func13, Tryd.ntmps13
  go_wp2_with (first | (go_at_call 38; refine (CV _).mono ?_; rintro e w2 ⟨rfl, hB2⟩; obtain ⟨d0, d1, d2⟩ := box_cells2 hB2) | (go_at_call 39; refine (CI _).mono ?_; rintro e w3 ⟨rfl, hB3⟩; have q0 := cell_kept2 hB3 d0; have q1 := cell_kept2 hB3 d1; have q2 := cell_kept2 hB3 d2))
  go_ret
  exact ⟨rfl, text_below hB2 hB3⟩

set_option maxRecDepth 100000 in
set_option maxHeartbeats 1000000 in
theorem refmay_1a1 (k : Int) (t x : ByteArray) (ht : t.size ≤ 9000) (hx : x.size ≤ 9000) (w : World) (hA : t.size ≤ 4000) (hi : isIRIB (bs t) = true) (hx0 : 0 < x.size) :
    Calls Tryd.prog 13 #[termV 1 t x] w fun e w' => e = .returned (.bool (false)) ∧ Below w.heap.size w w' := by
  have d4 : decide ((t.size : Int) ≤ 4000) = true := by simp; omega
  have CV := fun W => refvalid_any t ht W
  have CI := fun W => refIRI_any t ht W
  rw [hi] at CI
  have he : x.toList.isEmpty = false := nonempty hx0
  clear hi
  generalize valid (bs t) = v at *
  go_enter Tryd.func13, Tryd.ntmps13
  go_wp2_with (first | (go_at_call 38; refine (CV _).mono ?_; rintro e w2 ⟨rfl, hB2⟩; obtain ⟨d0, d1, d2⟩ := box_cells2 hB2) | (go_at_call 39; refine (CI _).mono ?_; rintro e w3 ⟨rfl, hB3⟩; have q0 := cell_kept2 hB3 d0; have q1 := cell_kept2 hB3 d1; have q2 := cell_kept2 hB3 d2))
  go_ret
  exact ⟨rfl, text_below hB2 hB3⟩

set_option maxRecDepth 100000 in
set_option maxHeartbeats 1000000 in
theorem refmay_1a2 (k : Int) (t x : ByteArray) (ht : t.size ≤ 9000) (hx : x.size ≤ 9000) (w : World) (hA : t.size ≤ 4000) (hi : isIRIB (bs t) = false) :
    Calls Tryd.prog 13 #[termV 1 t x] w fun e w' => e = .returned (.bool (false)) ∧ Below w.heap.size w w' := by
  have d4 : decide ((t.size : Int) ≤ 4000) = true := by simp; omega
  have CV := fun W => refvalid_any t ht W
  have CI := fun W => refIRI_any t ht W
  rw [hi] at CI
  clear hi
  generalize valid (bs t) = v at *
  go_enter Tryd.func13, Tryd.ntmps13
  go_wp2_with (first | (go_at_call 38; refine (CV _).mono ?_; rintro e w2 ⟨rfl, hB2⟩; obtain ⟨d0, d1, d2⟩ := box_cells2 hB2) | (go_at_call 39; refine (CI _).mono ?_; rintro e w3 ⟨rfl, hB3⟩; have q0 := cell_kept2 hB3 d0; have q1 := cell_kept2 hB3 d1; have q2 := cell_kept2 hB3 d2))
  go_ret
  exact ⟨rfl, text_below hB2 hB3⟩

set_option maxRecDepth 100000 in
set_option maxHeartbeats 1000000 in
theorem refmay_2a0 (k : Int) (t x : ByteArray) (ht : t.size ≤ 9000) (hx : x.size ≤ 9000) (w : World) (hA : t.size ≤ 4000) (hi : isBlankB (bs t) = true) (hx0 : x = ByteArray.empty) :
    Calls Tryd.prog 13 #[termV 2 t x] w fun e w' => e = .returned (.bool (true)) ∧ Below w.heap.size w w' := by
  have d4 : decide ((t.size : Int) ≤ 4000) = true := by simp; omega
  have CV := fun W => refvalid_any t ht W
  have CI := fun W => refWord_any t ht W
  rw [hi] at CI
  have he : ByteArray.empty.toList.isEmpty = true := by rw [← decide_eq_emptyBytes]; simp
  subst hx0
  clear hi
  generalize valid (bs t) = v at *
  go_enter Tryd.func13, Tryd.ntmps13
  go_wp2_with (first | (go_at_call 38; refine (CV _).mono ?_; rintro e w2 ⟨rfl, hB2⟩; obtain ⟨d0, d1, d2⟩ := box_cells2 hB2) | (go_at_call 40; refine (CI _).mono ?_; rintro e w3 ⟨rfl, rfl⟩))
  go_ret
  exact ⟨rfl, text_below hB2 (Below.refl _ _)⟩

set_option maxRecDepth 100000 in
set_option maxHeartbeats 1000000 in
theorem refmay_2a1 (k : Int) (t x : ByteArray) (ht : t.size ≤ 9000) (hx : x.size ≤ 9000) (w : World) (hA : t.size ≤ 4000) (hi : isBlankB (bs t) = true) (hx0 : 0 < x.size) :
    Calls Tryd.prog 13 #[termV 2 t x] w fun e w' => e = .returned (.bool (false)) ∧ Below w.heap.size w w' := by
  have d4 : decide ((t.size : Int) ≤ 4000) = true := by simp; omega
  have CV := fun W => refvalid_any t ht W
  have CI := fun W => refWord_any t ht W
  rw [hi] at CI
  have he : x.toList.isEmpty = false := nonempty hx0
  clear hi
  generalize valid (bs t) = v at *
  go_enter Tryd.func13, Tryd.ntmps13
  go_wp2_with (first | (go_at_call 38; refine (CV _).mono ?_; rintro e w2 ⟨rfl, hB2⟩; obtain ⟨d0, d1, d2⟩ := box_cells2 hB2) | (go_at_call 40; refine (CI _).mono ?_; rintro e w3 ⟨rfl, rfl⟩))
  go_ret
  exact ⟨rfl, text_below hB2 (Below.refl _ _)⟩

set_option maxRecDepth 100000 in
set_option maxHeartbeats 1000000 in
theorem refmay_2a2 (k : Int) (t x : ByteArray) (ht : t.size ≤ 9000) (hx : x.size ≤ 9000) (w : World) (hA : t.size ≤ 4000) (hi : isBlankB (bs t) = false) :
    Calls Tryd.prog 13 #[termV 2 t x] w fun e w' => e = .returned (.bool (false)) ∧ Below w.heap.size w w' := by
  have d4 : decide ((t.size : Int) ≤ 4000) = true := by simp; omega
  have CV := fun W => refvalid_any t ht W
  have CI := fun W => refWord_any t ht W
  rw [hi] at CI
  clear hi
  generalize valid (bs t) = v at *
  go_enter Tryd.func13, Tryd.ntmps13
  go_wp2_with (first | (go_at_call 38; refine (CV _).mono ?_; rintro e w2 ⟨rfl, hB2⟩; obtain ⟨d0, d1, d2⟩ := box_cells2 hB2) | (go_at_call 40; refine (CI _).mono ?_; rintro e w3 ⟨rfl, rfl⟩))
  go_ret
  exact ⟨rfl, text_below hB2 (Below.refl _ _)⟩

set_option maxRecDepth 100000 in
set_option maxHeartbeats 1000000 in
theorem refmay_3a0 (k : Int) (t x : ByteArray) (ht : t.size ≤ 9000) (hx : x.size ≤ 9000) (w : World) (hA : t.size ≤ 4000) (hv : valid (bs t) = true) (hx0 : x = ByteArray.empty) :
    Calls Tryd.prog 13 #[termV 3 t x] w fun e w' => e = .returned (.bool (true)) ∧ Below w.heap.size w w' := by
  have d4 : decide ((t.size : Int) ≤ 4000) = true := by simp; omega
  have CV := fun W => refvalid_any t ht W
  rw [hv] at CV
  clear hv
  have he : ByteArray.empty.toList.isEmpty = true := by rw [← decide_eq_emptyBytes]; simp
  subst hx0
  go_enter Tryd.func13, Tryd.ntmps13
  go_wp2_with (first | (go_at_call 38; refine (CV _).mono ?_; rintro e w2 ⟨rfl, hB2⟩; obtain ⟨d0, d1, d2⟩ := box_cells2 hB2))
  go_ret
  exact ⟨rfl, text_below hB2 (Below.refl _ _)⟩

set_option maxRecDepth 100000 in
set_option maxHeartbeats 1000000 in
theorem refmay_3a1 (k : Int) (t x : ByteArray) (ht : t.size ≤ 9000) (hx : x.size ≤ 9000) (w : World) (hA : t.size ≤ 4000) (hv : valid (bs t) = true) (hx0 : 0 < x.size) :
    Calls Tryd.prog 13 #[termV 3 t x] w fun e w' => e = .returned (.bool (false)) ∧ Below w.heap.size w w' := by
  have d4 : decide ((t.size : Int) ≤ 4000) = true := by simp; omega
  have CV := fun W => refvalid_any t ht W
  rw [hv] at CV
  clear hv
  have he : x.toList.isEmpty = false := nonempty hx0
  go_enter Tryd.func13, Tryd.ntmps13
  go_wp2_with (first | (go_at_call 38; refine (CV _).mono ?_; rintro e w2 ⟨rfl, hB2⟩; obtain ⟨d0, d1, d2⟩ := box_cells2 hB2))
  go_ret
  exact ⟨rfl, text_below hB2 (Below.refl _ _)⟩

set_option maxRecDepth 100000 in
set_option maxHeartbeats 1000000 in
theorem refmay_3a2 (k : Int) (t x : ByteArray) (ht : t.size ≤ 9000) (hx : x.size ≤ 9000) (w : World) (hA : t.size ≤ 4000) (hv : valid (bs t) = false) :
    Calls Tryd.prog 13 #[termV 3 t x] w fun e w' => e = .returned (.bool (false)) ∧ Below w.heap.size w w' := by
  have d4 : decide ((t.size : Int) ≤ 4000) = true := by simp; omega
  have CV := fun W => refvalid_any t ht W
  rw [hv] at CV
  clear hv
  go_enter Tryd.func13, Tryd.ntmps13
  go_wp2_with (first | (go_at_call 38; refine (CV _).mono ?_; rintro e w2 ⟨rfl, hB2⟩; obtain ⟨d0, d1, d2⟩ := box_cells2 hB2))
  go_ret
  exact ⟨rfl, text_below hB2 (Below.refl _ _)⟩

set_option maxRecDepth 100000 in
set_option maxHeartbeats 1000000 in
theorem refmay_4a2 (k : Int) (t x : ByteArray) (ht : t.size ≤ 9000) (hx : x.size ≤ 9000) (w : World) (hA : t.size ≤ 4000) (hv : valid (bs t) = false) :
    Calls Tryd.prog 13 #[termV 4 t x] w fun e w' => e = .returned (.bool (false)) ∧ Below w.heap.size w w' := by
  have d4 : decide ((t.size : Int) ≤ 4000) = true := by simp; omega
  have CV := fun W => refvalid_any t ht W
  rw [hv] at CV
  clear hv
  go_enter Tryd.func13, Tryd.ntmps13
  go_wp2_with (first | (go_at_call 38; refine (CV _).mono ?_; rintro e w2 ⟨rfl, hB2⟩; obtain ⟨d0, d1, d2⟩ := box_cells2 hB2))
  go_ret
  exact ⟨rfl, text_below hB2 (Below.refl _ _)⟩

set_option maxRecDepth 100000 in
set_option maxHeartbeats 1000000 in
theorem refmay_5a2 (k : Int) (t x : ByteArray) (ht : t.size ≤ 9000) (hx : x.size ≤ 9000) (w : World) (hA : t.size ≤ 4000) (hv : valid (bs t) = false) :
    Calls Tryd.prog 13 #[termV 5 t x] w fun e w' => e = .returned (.bool (false)) ∧ Below w.heap.size w w' := by
  have d4 : decide ((t.size : Int) ≤ 4000) = true := by simp; omega
  have CV := fun W => refvalid_any t ht W
  rw [hv] at CV
  clear hv
  go_enter Tryd.func13, Tryd.ntmps13
  go_wp2_with (first | (go_at_call 38; refine (CV _).mono ?_; rintro e w2 ⟨rfl, hB2⟩; obtain ⟨d0, d1, d2⟩ := box_cells2 hB2))
  go_ret
  exact ⟨rfl, text_below hB2 (Below.refl _ _)⟩

set_option maxRecDepth 100000 in
set_option maxHeartbeats 1000000 in
theorem refmay_4a0 (k : Int) (t x : ByteArray) (ht : t.size ≤ 9000) (hx : x.size ≤ 9000) (w : World) (hA : t.size ≤ 4000) (hv : valid (bs t) = true) :
    Calls Tryd.prog 13 #[termV 4 t x] w fun e w' => e = .returned (.bool (tagL (bs x))) ∧ Below w.heap.size w w' := by
  have d4 : decide ((t.size : Int) ≤ 4000) = true := by simp; omega
  have CV := fun W => refvalid_any t ht W
  rw [hv] at CV
  clear hv
  have CI := fun W => reftag_any x hx W
  generalize tagL (bs x) = g at *
  go_enter Tryd.func13, Tryd.ntmps13
  go_wp2_with (first | (go_at_call 38; refine (CV _).mono ?_; rintro e w2 ⟨rfl, hB2⟩; obtain ⟨d0, d1, d2⟩ := box_cells2 hB2) | (go_at_call 41; refine (CI _).mono ?_; rintro e w3 ⟨rfl, rfl⟩))
  go_ret
  exact ⟨rfl, text_below hB2 (Below.refl _ _)⟩

set_option maxRecDepth 100000 in
set_option maxHeartbeats 1000000 in
theorem refmay_5a0 (k : Int) (t x : ByteArray) (ht : t.size ≤ 9000) (hx : x.size ≤ 9000) (w : World) (hA : t.size ≤ 4000) (hv : valid (bs t) = true) (hi : isIRIB (bs x) = true) (hx0 : x = ⟨#[104, 116, 116, 112, 58, 47, 47, 119, 119, 119, 46, 119, 51, 46, 111, 114, 103, 47, 50, 48, 48, 49, 47, 88, 77, 76, 83, 99, 104, 101, 109, 97, 35, 115, 116, 114, 105, 110, 103]⟩) :
    Calls Tryd.prog 13 #[termV 5 t x] w fun e w' => e = .returned (.bool (false)) ∧ Below w.heap.size w w' := by
  have d4 : decide ((t.size : Int) ≤ 4000) = true := by simp; omega
  have CV := fun W => refvalid_any t ht W
  rw [hv] at CV
  clear hv
  have CI := fun W => refIRI_any x hx W
  rw [hi] at CI
  subst hx0
  clear hi
  go_enter Tryd.func13, Tryd.ntmps13
  go_wp2_with (first | (go_at_call 38; refine (CV _).mono ?_; rintro e w2 ⟨rfl, hB2⟩; obtain ⟨d0, d1, d2⟩ := box_cells2 hB2) | (go_at_call 39; refine (CI _).mono ?_; rintro e w3 ⟨rfl, hB3⟩; have q0 := cell_kept2 hB3 d0; have q1 := cell_kept2 hB3 d1; have q2 := cell_kept2 hB3 d2))
  go_ret
  exact ⟨rfl, text_below hB2 hB3⟩

set_option maxRecDepth 100000 in
set_option maxHeartbeats 1000000 in
theorem refmay_5a1 (k : Int) (t x : ByteArray) (ht : t.size ≤ 9000) (hx : x.size ≤ 9000) (w : World) (hA : t.size ≤ 4000) (hv : valid (bs t) = true) (hi : isIRIB (bs x) = true) (hx0 : bs x ≠ xsd) :
    Calls Tryd.prog 13 #[termV 5 t x] w fun e w' => e = .returned (.bool (true)) ∧ Below w.heap.size w w' := by
  have d4 : decide ((t.size : Int) ≤ 4000) = true := by simp; omega
  have CV := fun W => refvalid_any t ht W
  rw [hv] at CV
  clear hv
  have CI := fun W => refIRI_any x hx W
  rw [hi] at CI
  have hne := xsd_ne hx0
  clear hi hx0
  go_enter Tryd.func13, Tryd.ntmps13
  go_wp2_with (first | (go_at_call 38; refine (CV _).mono ?_; rintro e w2 ⟨rfl, hB2⟩; obtain ⟨d0, d1, d2⟩ := box_cells2 hB2) | (go_at_call 39; refine (CI _).mono ?_; rintro e w3 ⟨rfl, hB3⟩; have q0 := cell_kept2 hB3 d0; have q1 := cell_kept2 hB3 d1; have q2 := cell_kept2 hB3 d2))
  go_ret
  exact ⟨ret_bool (by simpa using hne), text_below hB2 hB3⟩

set_option maxRecDepth 100000 in
set_option maxHeartbeats 1000000 in
theorem refmay_5a3 (k : Int) (t x : ByteArray) (ht : t.size ≤ 9000) (hx : x.size ≤ 9000) (w : World) (hA : t.size ≤ 4000) (hv : valid (bs t) = true) (hi : isIRIB (bs x) = false) :
    Calls Tryd.prog 13 #[termV 5 t x] w fun e w' => e = .returned (.bool (false)) ∧ Below w.heap.size w w' := by
  have d4 : decide ((t.size : Int) ≤ 4000) = true := by simp; omega
  have CV := fun W => refvalid_any t ht W
  rw [hv] at CV
  clear hv
  have CI := fun W => refIRI_any x hx W
  rw [hi] at CI
  clear hi
  go_enter Tryd.func13, Tryd.ntmps13
  go_wp2_with (first | (go_at_call 38; refine (CV _).mono ?_; rintro e w2 ⟨rfl, hB2⟩; obtain ⟨d0, d1, d2⟩ := box_cells2 hB2) | (go_at_call 39; refine (CI _).mono ?_; rintro e w3 ⟨rfl, hB3⟩; have q0 := cell_kept2 hB3 d0; have q1 := cell_kept2 hB3 d1; have q2 := cell_kept2 hB3 d2))
  go_ret
  exact ⟨rfl, text_below hB2 hB3⟩

set_option maxRecDepth 100000 in
set_option maxHeartbeats 1000000 in
theorem refmay_oa (k : Int) (t x : ByteArray) (ht : t.size ≤ 9000) (hx : x.size ≤ 9000) (w : World) (hA : t.size ≤ 4000) (h1 : (k == 1) = false) (h2 : (k == 2) = false) (h3 : (k == 3) = false) (h4 : (k == 4) = false) (h5 : (k == 5) = false) :
    Calls Tryd.prog 13 #[termV k t x] w fun e w' => e = .returned (.bool (false)) ∧ Below w.heap.size w w' := by
  have d4 : decide ((t.size : Int) ≤ 4000) = true := by simp; omega
  have CV := fun W => refvalid_any t ht W
  generalize valid (bs t) = v at *
  go_enter Tryd.func13, Tryd.ntmps13
  go_wp2_with (first | (go_at_call 38; refine (CV _).mono ?_; rintro e w2 ⟨rfl, hB2⟩; obtain ⟨d0, d1, d2⟩ := box_cells2 hB2))
  go_ret
  exact ⟨rfl, text_below hB2 (Below.refl _ _)⟩

set_option maxRecDepth 100000 in
set_option maxHeartbeats 1000000 in
theorem refmay_1b0 (k : Int) (t x : ByteArray) (ht : t.size ≤ 9000) (hx : x.size ≤ 9000) (w : World) (hA : ¬ t.size ≤ 4000) (hi : isIRIB (bs t) = true) (hx0 : x = ByteArray.empty) :
    Calls Tryd.prog 13 #[termV 1 t x] w fun e w' => e = .returned (.bool (true)) ∧ Below w.heap.size w w' := by
  have d4 : decide ((t.size : Int) ≤ 4000) = false := by simp; omega
  have CI := fun W => refIRI_any t ht W
  rw [hi] at CI
  have he : ByteArray.empty.toList.isEmpty = true := by rw [← decide_eq_emptyBytes]; simp
  subst hx0
  clear hi
  go_enter Tryd.func13, Tryd.ntmps13
  go_wp2_with (first | (go_at_call 39; refine (CI _).mono ?_; rintro e w3 ⟨rfl, hB3⟩; obtain ⟨q0, q1, q2⟩ := box_cells2 hB3))
  go_ret
  exact ⟨rfl, text_below (Below.refl _ _) hB3⟩

set_option maxRecDepth 100000 in
set_option maxHeartbeats 1000000 in
theorem refmay_1b1 (k : Int) (t x : ByteArray) (ht : t.size ≤ 9000) (hx : x.size ≤ 9000) (w : World) (hA : ¬ t.size ≤ 4000) (hi : isIRIB (bs t) = true) (hx0 : 0 < x.size) :
    Calls Tryd.prog 13 #[termV 1 t x] w fun e w' => e = .returned (.bool (false)) ∧ Below w.heap.size w w' := by
  have d4 : decide ((t.size : Int) ≤ 4000) = false := by simp; omega
  have CI := fun W => refIRI_any t ht W
  rw [hi] at CI
  have he : x.toList.isEmpty = false := nonempty hx0
  clear hi
  go_enter Tryd.func13, Tryd.ntmps13
  go_wp2_with (first | (go_at_call 39; refine (CI _).mono ?_; rintro e w3 ⟨rfl, hB3⟩; obtain ⟨q0, q1, q2⟩ := box_cells2 hB3))
  go_ret
  exact ⟨rfl, text_below (Below.refl _ _) hB3⟩

set_option maxRecDepth 100000 in
set_option maxHeartbeats 1000000 in
theorem refmay_1b2 (k : Int) (t x : ByteArray) (ht : t.size ≤ 9000) (hx : x.size ≤ 9000) (w : World) (hA : ¬ t.size ≤ 4000) (hi : isIRIB (bs t) = false) :
    Calls Tryd.prog 13 #[termV 1 t x] w fun e w' => e = .returned (.bool (false)) ∧ Below w.heap.size w w' := by
  have d4 : decide ((t.size : Int) ≤ 4000) = false := by simp; omega
  have CI := fun W => refIRI_any t ht W
  rw [hi] at CI
  clear hi
  go_enter Tryd.func13, Tryd.ntmps13
  go_wp2_with (first | (go_at_call 39; refine (CI _).mono ?_; rintro e w3 ⟨rfl, hB3⟩; obtain ⟨q0, q1, q2⟩ := box_cells2 hB3))
  go_ret
  exact ⟨rfl, text_below (Below.refl _ _) hB3⟩

set_option maxRecDepth 100000 in
set_option maxHeartbeats 1000000 in
theorem refmay_2b0 (k : Int) (t x : ByteArray) (ht : t.size ≤ 9000) (hx : x.size ≤ 9000) (w : World) (hA : ¬ t.size ≤ 4000) (hi : isBlankB (bs t) = true) (hx0 : x = ByteArray.empty) :
    Calls Tryd.prog 13 #[termV 2 t x] w fun e w' => e = .returned (.bool (true)) ∧ Below w.heap.size w w' := by
  have d4 : decide ((t.size : Int) ≤ 4000) = false := by simp; omega
  have CI := fun W => refWord_any t ht W
  rw [hi] at CI
  have he : ByteArray.empty.toList.isEmpty = true := by rw [← decide_eq_emptyBytes]; simp
  subst hx0
  clear hi
  go_enter Tryd.func13, Tryd.ntmps13
  go_wp2_with (first | (go_at_call 40; refine (CI _).mono ?_; rintro e w3 ⟨rfl, rfl⟩))
  go_ret
  exact ⟨rfl, text_below (Below.refl _ _) (Below.refl _ _)⟩

set_option maxRecDepth 100000 in
set_option maxHeartbeats 1000000 in
theorem refmay_2b1 (k : Int) (t x : ByteArray) (ht : t.size ≤ 9000) (hx : x.size ≤ 9000) (w : World) (hA : ¬ t.size ≤ 4000) (hi : isBlankB (bs t) = true) (hx0 : 0 < x.size) :
    Calls Tryd.prog 13 #[termV 2 t x] w fun e w' => e = .returned (.bool (false)) ∧ Below w.heap.size w w' := by
  have d4 : decide ((t.size : Int) ≤ 4000) = false := by simp; omega
  have CI := fun W => refWord_any t ht W
  rw [hi] at CI
  have he : x.toList.isEmpty = false := nonempty hx0
  clear hi
  go_enter Tryd.func13, Tryd.ntmps13
  go_wp2_with (first | (go_at_call 40; refine (CI _).mono ?_; rintro e w3 ⟨rfl, rfl⟩))
  go_ret
  exact ⟨rfl, text_below (Below.refl _ _) (Below.refl _ _)⟩

set_option maxRecDepth 100000 in
set_option maxHeartbeats 1000000 in
theorem refmay_2b2 (k : Int) (t x : ByteArray) (ht : t.size ≤ 9000) (hx : x.size ≤ 9000) (w : World) (hA : ¬ t.size ≤ 4000) (hi : isBlankB (bs t) = false) :
    Calls Tryd.prog 13 #[termV 2 t x] w fun e w' => e = .returned (.bool (false)) ∧ Below w.heap.size w w' := by
  have d4 : decide ((t.size : Int) ≤ 4000) = false := by simp; omega
  have CI := fun W => refWord_any t ht W
  rw [hi] at CI
  clear hi
  go_enter Tryd.func13, Tryd.ntmps13
  go_wp2_with (first | (go_at_call 40; refine (CI _).mono ?_; rintro e w3 ⟨rfl, rfl⟩))
  go_ret
  exact ⟨rfl, text_below (Below.refl _ _) (Below.refl _ _)⟩

set_option maxRecDepth 100000 in
set_option maxHeartbeats 1000000 in
theorem refmay_3b (k : Int) (t x : ByteArray) (ht : t.size ≤ 9000) (hx : x.size ≤ 9000) (w : World) (hA : ¬ t.size ≤ 4000) :
    Calls Tryd.prog 13 #[termV 3 t x] w fun e w' => e = .returned (.bool (false)) ∧ Below w.heap.size w w' := by
  have d4 : decide ((t.size : Int) ≤ 4000) = false := by simp; omega
  go_enter Tryd.func13, Tryd.ntmps13
  go_wp2
  go_ret
  exact ⟨rfl, text_below (Below.refl _ _) (Below.refl _ _)⟩

set_option maxRecDepth 100000 in
set_option maxHeartbeats 1000000 in
theorem refmay_4b (k : Int) (t x : ByteArray) (ht : t.size ≤ 9000) (hx : x.size ≤ 9000) (w : World) (hA : ¬ t.size ≤ 4000) :
    Calls Tryd.prog 13 #[termV 4 t x] w fun e w' => e = .returned (.bool (false)) ∧ Below w.heap.size w w' := by
  have d4 : decide ((t.size : Int) ≤ 4000) = false := by simp; omega
  go_enter Tryd.func13, Tryd.ntmps13
  go_wp2
  go_ret
  exact ⟨rfl, text_below (Below.refl _ _) (Below.refl _ _)⟩

set_option maxRecDepth 100000 in
set_option maxHeartbeats 1000000 in
theorem refmay_5b (k : Int) (t x : ByteArray) (ht : t.size ≤ 9000) (hx : x.size ≤ 9000) (w : World) (hA : ¬ t.size ≤ 4000) :
    Calls Tryd.prog 13 #[termV 5 t x] w fun e w' => e = .returned (.bool (false)) ∧ Below w.heap.size w w' := by
  have d4 : decide ((t.size : Int) ≤ 4000) = false := by simp; omega
  go_enter Tryd.func13, Tryd.ntmps13
  go_wp2
  go_ret
  exact ⟨rfl, text_below (Below.refl _ _) (Below.refl _ _)⟩

set_option maxRecDepth 100000 in
set_option maxHeartbeats 1000000 in
theorem refmay_ob (k : Int) (t x : ByteArray) (ht : t.size ≤ 9000) (hx : x.size ≤ 9000) (w : World) (hA : ¬ t.size ≤ 4000) (h1 : (k == 1) = false) (h2 : (k == 2) = false) (h3 : (k == 3) = false) (h4 : (k == 4) = false) (h5 : (k == 5) = false) :
    Calls Tryd.prog 13 #[termV k t x] w fun e w' => e = .returned (.bool (false)) ∧ Below w.heap.size w w' := by
  have d4 : decide ((t.size : Int) ≤ 4000) = false := by simp; omega
  go_enter Tryd.func13, Tryd.ntmps13
  go_wp2
  go_ret
  exact ⟨rfl, text_below (Below.refl _ _) (Below.refl _ _)⟩

/-- The reference's May answers as the term's own. -/
theorem refmay_any (k : Int) (t x : ByteArray) (ht : t.size ≤ 9000) (hx : x.size ≤ 9000) (w : World) :
    Calls Tryd.prog 13 #[termV k t x] w fun e w' => e = .returned (.bool (mayS k t x)) ∧ Below w.heap.size w w' := by
  have hx01 : x = ByteArray.empty ∨ 0 < x.size := by
    by_cases h : 0 < x.size
    · exact .inr h
    · exact .inl (empty_of x (by omega))
  by_cases hA : t.size ≤ 4000
  · by_cases h1 : k = 1
    · subst h1
      have e : mayS 1 t x = (noExtra x && isIRIB (bs t)) := rfl
      rw [e]
      cases hi : isIRIB (bs t) with
      | true => rcases hx01 with rfl | h
                · exact refmay_1a0 1 t _ ht hx w hA hi rfl
                · rw [noExtra_n h]; exact refmay_1a1 1 t x ht hx w hA hi h
      | false => rw [Bool.and_false]; exact refmay_1a2 1 t x ht hx w hA hi
    by_cases h2 : k = 2
    · subst h2
      have e : mayS 2 t x = (noExtra x && isBlankB (bs t)) := rfl
      rw [e]
      cases hi : isBlankB (bs t) with
      | true => rcases hx01 with rfl | h
                · exact refmay_2a0 1 t _ ht hx w hA hi rfl
                · rw [noExtra_n h]; exact refmay_2a1 1 t x ht hx w hA hi h
      | false => rw [Bool.and_false]; exact refmay_2a2 1 t x ht hx w hA hi
    by_cases h3 : k = 3
    · subst h3
      have e : mayS 3 t x = (noExtra x && isValueB (bs t)) := rfl
      rw [e, size_of_value hA]
      cases hi : valid (bs t) with
      | true => rcases hx01 with rfl | h
                · exact refmay_3a0 1 t _ ht hx w hA hi rfl
                · rw [noExtra_n h]; exact refmay_3a1 1 t x ht hx w hA hi h
      | false => rw [Bool.and_false]; exact refmay_3a2 1 t x ht hx w hA hi
    by_cases h4 : k = 4
    · subst h4
      have e : mayS 4 t x = (isTagS x && isValueB (bs t)) := rfl
      rw [e, size_of_value hA, isTagS_eq x (by omega)]
      cases hi : valid (bs t) with
      | true => rw [Bool.and_true]; exact refmay_4a0 1 t x ht hx w hA hi
      | false => rw [Bool.and_false]; exact refmay_4a2 1 t x ht hx w hA hi
    by_cases h5 : k = 5
    · subst h5
      have e : mayS 5 t x = (isTypeB (bs x) && isValueB (bs t)) := rfl
      rw [e, size_of_value hA]
      cases hv : valid (bs t) with
      | false => rw [Bool.and_false]; exact refmay_5a2 1 t x ht hx w hA hv
      | true =>
        unfold isTypeB
        cases hi : isIRIB (bs x) with
        | false => rw [Bool.and_false, Bool.false_and]; exact refmay_5a3 1 t x ht hx w hA hv hi
        | true =>
          by_cases hq : bs x = xsd
          · rw [decide_eq_true hq]
            exact refmay_5a0 1 t x ht hx w hA hv hi (bs_inj (by rw [hq]; decide +kernel))
          · rw [decide_eq_false hq]
            exact refmay_5a1 1 t x ht hx w hA hv hi hq
    · have e : mayS k t x = false := by unfold mayS; rw [if_neg h1, if_neg h2, if_neg h3, if_neg h4, if_neg h5]
      rw [e]
      exact refmay_oa k t x ht hx w hA (by simpa using h1) (by simpa using h2) (by simpa using h3) (by simpa using h4) (by simpa using h5)
  · by_cases h1 : k = 1
    · subst h1
      have e : mayS 1 t x = (noExtra x && isIRIB (bs t)) := rfl
      rw [e]
      cases hi : isIRIB (bs t) with
      | true => rcases hx01 with rfl | h
                · exact refmay_1b0 1 t _ ht hx w hA hi rfl
                · rw [noExtra_n h]; exact refmay_1b1 1 t x ht hx w hA hi h
      | false => rw [Bool.and_false]; exact refmay_1b2 1 t x ht hx w hA hi
    by_cases h2 : k = 2
    · subst h2
      have e : mayS 2 t x = (noExtra x && isBlankB (bs t)) := rfl
      rw [e]
      cases hi : isBlankB (bs t) with
      | true => rcases hx01 with rfl | h
                · exact refmay_2b0 1 t _ ht hx w hA hi rfl
                · rw [noExtra_n h]; exact refmay_2b1 1 t x ht hx w hA hi h
      | false => rw [Bool.and_false]; exact refmay_2b2 1 t x ht hx w hA hi
    by_cases h3 : k = 3
    · subst h3
      have e : mayS 3 t x = (noExtra x && isValueB (bs t)) := rfl
      rw [e, size_of_long hA, Bool.and_false]
      exact refmay_3b 1 t x ht hx w hA
    by_cases h4 : k = 4
    · subst h4
      have e : mayS 4 t x = (isTagS x && isValueB (bs t)) := rfl
      rw [e, size_of_long hA, Bool.and_false]
      exact refmay_4b 1 t x ht hx w hA
    by_cases h5 : k = 5
    · subst h5
      have e : mayS 5 t x = (isTypeB (bs x) && isValueB (bs t)) := rfl
      rw [e, size_of_long hA, Bool.and_false]
      exact refmay_5b 1 t x ht hx w hA
    · have e : mayS k t x = false := by unfold mayS; rw [if_neg h1, if_neg h2, if_neg h3, if_neg h4, if_neg h5]
      rw [e]
      exact refmay_ob k t x ht hx w hA (by simpa using h1) (by simpa using h2) (by simpa using h3) (by simpa using h4) (by simpa using h5)
end Go.Proofs.YtdcfjopijblndaaDoor
