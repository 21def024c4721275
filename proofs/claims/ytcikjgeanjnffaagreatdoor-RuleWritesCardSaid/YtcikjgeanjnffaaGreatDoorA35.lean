/-
  WHAT THE PROOF STANDS ON, a part of it: RuRefText.
-/
import Derived.Test.YtcikjgeanjnffaaGreatDoorA33
import Derived.Test.YtcikjgeanjnffaaGreatDoorA29
/-
  CONTRACTS OF THE REFERENCE's slotText, patternText. (Made out of XRuText by tools/genrureftext.py.)
-/

namespace Go.Proofs.YtcikjgeanjnffaaGreatDoor
open Go.RowKit
open Utf Term
set_option linter.unusedVariables false
set_option linter.unusedSimpArgs false

set_option maxRecDepth 100000 in
set_option maxHeartbeats 2000000 in
theorem refSlotText_any (v : ByteArray) (k : Int) (t x : ByteArray) (h : GoodSl v k t x) (m : Int) (w : World) (hm : HasMax w m) :
    Calls Tryz.prog 57 #[.agg #[.string v, .int .i64 k, .string t, .string x]] w fun e w' => e = .returned (.string (slotT v k t x)) ∧ Below w.heap.size w w' := by
  have hsm := slot_small h
  have HB := Lib.hid (below_new w (.cells #[.string v, .int .i64 k, .string t, .string x] 26))
  have Hm := Lib.hid (cell_below HB.out hm)
  unfold GoodSl slotB at h
  by_cases h0 : v.size = 0
  · rw [if_pos h0] at h
    have h : mayS k t x = true := h
    have HR : Hid (slotT v k t x = strOfNums (textL k t x)) := Lib.hid (by unfold slotT slotL; rw [if_pos h0])
    have HT := Lib.hid (fun W (hW : HasMax W m) => reftext_any k t x h (by have := hsm.2.1; show t.size ≤ _; simp at this; omega) (by have := hsm.2.2.1; show x.size ≤ _; simp at this; omega) W)
    obtain rfl := empty_size h0
    generalize slotT _ k t x = R at *
    generalize strOfNums (textL k t x) = Q at *
    clear h h0 hsm hm
    go_enter Tryz.func57, Tryz.ntmps57
    go_wp2_with (go_at_call 101; refine (HT.out _ Hm.out).mono ?_; rintro e w' ⟨rfl, hB⟩)
    go_ret
    exact ⟨ret_str HR.out.symm, below_step HB.out hB⟩
  · have HR : Hid (slotT v k t x = ⟨#[63]⟩ ++ v) := Lib.hid (by
      unfold slotT slotL
      rw [if_neg h0]
      refine (strOf_eq ?_).symm
      rw [bs_app]
      rfl)
    have hne := string_neq_empty h0
    have hvz : v.size ≤ 32 := hsm.1
    have f0 : ¬ 9223372036854775807 < 1 + v.size := by omega
    generalize slotT _ k t x = R at *
    clear h h0 hsm hm
    go_enter Tryz.func57, Tryz.ntmps57
    go_wp2
    go_ret
    exact ⟨ret_str HR.out.symm, HB.out⟩

set_option maxRecDepth 100000 in
set_option maxHeartbeats 4000000 in
theorem refPatText_any (a0 : ByteArray) (a1 : Int) (a2 a3 : ByteArray) (b0 : ByteArray) (b1 : Int) (b2 b3 : ByteArray) (c0 : ByteArray) (c1 : Int) (c2 c3 : ByteArray) (GA : GoodSl a0 a1 a2 a3) (GB : GoodSl b0 b1 b2 b3) (GC : GoodSl c0 c1 c2 c3) (m : Int) (w : World) (hm : HasMax w m) :
    Calls Tryz.prog 56 #[.agg #[.string a0, .int .i64 a1, .string a2, .string a3, .string b0, .int .i64 b1, .string b2, .string b3, .string c0, .int .i64 c1, .string c2, .string c3]] w fun e w' => e = .returned (.string (patT a0 a1 a2 a3 b0 b1 b2 b3 c0 c1 c2 c3)) ∧ Below w.heap.size w w' := by
  have MT := fun v k t x (h : GoodSl v k t x) W (hW : HasMax W m) => refSlotText_any v k t x h m W hW
  have ZA := slotT_len GA
  have ZB := slotT_len GB
  have ZC := slotT_len GC
  have HT := Lib.hid (patT_eq a0 a1 a2 a3 b0 b1 b2 b3 c0 c1 c2 c3)
  have HS := Lib.hid (held12_start w m hm a0 a1 a2 a3 b0 b1 b2 b3 c0 c1 c2 c3)
  clear hm
  generalize slotT = T at *
  generalize patT a0 a1 a2 a3 b0 b1 b2 b3 c0 c1 c2 c3 = R at *
  have f0 : ¬ 9223372036854775807 < 1 + (T a0 a1 a2 a3).size := by omega
  have f1 : ¬ 9223372036854775807 < 1 + (T a0 a1 a2 a3).size + 1 := by omega
  have f2 : ¬ 9223372036854775807 < 1 + (T a0 a1 a2 a3).size + 1 + (T b0 b1 b2 b3).size := by omega
  have f3 : ¬ 9223372036854775807 < 1 + (T a0 a1 a2 a3).size + 1 + (T b0 b1 b2 b3).size + 1 := by omega
  have f4 : ¬ 9223372036854775807 < 1 + (T a0 a1 a2 a3).size + 1 + (T b0 b1 b2 b3).size + 1 + (T c0 c1 c2 c3).size := by omega
  have f5 : ¬ 9223372036854775807 < 1 + (T a0 a1 a2 a3).size + 1 + (T b0 b1 b2 b3).size + 1 + (T c0 c1 c2 c3).size + 1 := by omega
  clear ZA ZB ZC
  generalize GoodSl = G at *
  go_enter Tryz.func56, Tryz.ntmps56
  go_wp2
  go_region_held3 (fun W' => W'.cell? ⟨w.heap.size, 0, none⟩ = some (.string a0) ∧ W'.cell? ⟨w.heap.size, 1, none⟩ = some (.int .i64 a1) ∧ W'.cell? ⟨w.heap.size, 2, none⟩ = some (.string a2) ∧ W'.cell? ⟨w.heap.size, 3, none⟩ = some (.string a3) ∧ W'.cell? ⟨w.heap.size, 4, none⟩ = some (.string b0) ∧ W'.cell? ⟨w.heap.size, 5, none⟩ = some (.int .i64 b1) ∧ W'.cell? ⟨w.heap.size, 6, none⟩ = some (.string b2) ∧ W'.cell? ⟨w.heap.size, 7, none⟩ = some (.string b3) ∧ W'.cell? ⟨w.heap.size, 8, none⟩ = some (.string c0) ∧ W'.cell? ⟨w.heap.size, 9, none⟩ = some (.int .i64 c1) ∧ W'.cell? ⟨w.heap.size, 10, none⟩ = some (.string c2) ∧ W'.cell? ⟨w.heap.size, 11, none⟩ = some (.string c3) ∧ W'.cell? ⟨0, 0, none⟩ = some (.int .i64 m) ∧ Below w.heap.size w W') ((first | assumption | exact HS.out | exact held12_step (by assumption) (by assumption))) ((go_at_call 57; refine (MT _ _ _ _ (by assumption) _ (held12_max (by assumption))).mono ?_; rintro e w3 ⟨rfl, hB3⟩))
  all_goals
    rename_i hHeld
    have hb := hHeld.2.2.2.2.2.2.2.2.2.2.2.2.2
    go_wp2
    go_ret
    exact ⟨ret_str HT.out.symm, hb⟩
end Go.Proofs.YtcikjgeanjnffaaGreatDoor

