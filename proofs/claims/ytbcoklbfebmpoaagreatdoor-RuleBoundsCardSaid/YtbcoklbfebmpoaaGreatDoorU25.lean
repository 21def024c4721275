/-
  WHAT THE PROOF STANDS ON, a part of it: RuText, RuWrite.
-/
import Derived.Test.YtbcoklbfebmpoaaGreatDoorU24
import Derived.Test.YtbcoklbfebmpoaaGreatDoorU21
import Derived.Deep.RegionHeld3
import Derived.Test.YtbcoklbfebmpoaaGreatDoorU20
/-
  CONTRACTS OF rules.slotText, patternText.
-/

namespace Go.Proofs.YtbcoklbfebmpoaaGreatDoor
open Go.RowKit
open Utf Term
set_option linter.unusedVariables false
set_option linter.unusedSimpArgs false

/-- What may be is not long. -/
theorem may_small {k : Int} {t x : ByteArray} (h : mayS k t x = true) : t.size ≤ 4000 ∧ x.size ≤ 1000 ∧ (textL k t x).length ≤ 25100 := by
  have hq := quoteL_len (bs t)
  have lt := bs_length t
  have lx := bs_length x
  unfold mayS at h
  by_cases h1 : k = 1
  · subst h1
    rw [if_pos rfl, Bool.and_eq_true] at h
    obtain ⟨h, hi⟩ := h
    unfold noExtra at h
    unfold isIRIB at hi
    simp only [Bool.and_eq_true, decide_eq_true_eq] at h hi
    refine ⟨by omega, by omega, ?_⟩
    show (60 :: (bs t ++ [62])).length ≤ _
    simp; omega
  rw [if_neg h1] at h
  by_cases h2 : k = 2
  · subst h2
    rw [if_pos rfl, Bool.and_eq_true] at h
    obtain ⟨h, hi⟩ := h
    unfold noExtra at h
    unfold isBlankB at hi
    simp only [Bool.and_eq_true, decide_eq_true_eq] at h hi
    refine ⟨by omega, by omega, ?_⟩
    show (95 :: 58 :: bs t).length ≤ _
    simp; omega
  rw [if_neg h2] at h
  by_cases h3 : k = 3
  · subst h3
    rw [if_pos rfl, Bool.and_eq_true] at h
    obtain ⟨h, hi⟩ := h
    unfold noExtra at h
    unfold isValueB at hi
    simp only [Bool.and_eq_true, decide_eq_true_eq] at h hi
    refine ⟨by omega, by omega, ?_⟩
    show (quoteL (bs t)).length ≤ _
    omega
  rw [if_neg h3] at h
  by_cases h4 : k = 4
  · subst h4
    rw [if_pos rfl, Bool.and_eq_true] at h
    obtain ⟨h, hi⟩ := h
    unfold isTagS at h
    unfold isValueB at hi
    simp only [Bool.and_eq_true, decide_eq_true_eq] at h hi
    refine ⟨by omega, by omega, ?_⟩
    show (quoteL (bs t) ++ 64 :: bs x).length ≤ _
    simp; omega
  rw [if_neg h4] at h
  by_cases h5 : k = 5
  · subst h5
    rw [if_pos rfl, Bool.and_eq_true] at h
    obtain ⟨h, hi⟩ := h
    unfold isTypeB isIRIB at h
    unfold isValueB at hi
    simp only [Bool.and_eq_true, decide_eq_true_eq] at h hi
    refine ⟨by omega, by omega, ?_⟩
    show (quoteL (bs t) ++ 94 :: 94 :: 60 :: (bs x ++ [62])).length ≤ _
    simp; omega
  · rw [if_neg h5] at h
    cases h
theorem slot_small {s : SlotD} (h : slotB s = true) : s.1.size ≤ 32 ∧ s.2.2.1.size ≤ 4000 ∧ s.2.2.2.size ≤ 1000 ∧ (slotL s).length ≤ 25100 := by
  unfold slotB at h
  unfold slotL
  by_cases h0 : s.1.size = 0
  · rw [if_pos h0] at h ⊢
    have := may_small h
    exact ⟨by omega, this.1, this.2.1, this.2.2⟩
  · rw [if_neg h0] at h ⊢
    rw [Bool.and_eq_true, decide_eq_true_eq] at h
    obtain ⟨hn, hz⟩ := h
    unfold nameB at hn
    rw [Bool.and_eq_true, decide_eq_true_eq] at hn
    rw [hz]
    refine ⟨hn.1, by decide, by decide, ?_⟩
    rw [List.length_cons, bs_length]
    omega
theorem slotL_byte (s : SlotD) : AllB (slotL s) := by
  unfold slotL
  split
  · exact textL_byte _ _ _
  · intro c hc
    rcases List.mem_cons.1 hc with rfl | hc
    · exact ⟨by decide, by decide⟩
    · exact bs_byte s.1 c hc

/-- A slot's text. -/
def slotT (v : ByteArray) (k : Int) (t x : ByteArray) : ByteArray := strOfNums (slotL (v, k, t, x))
def GoodSl (v : ByteArray) (k : Int) (t x : ByteArray) : Prop := slotB (v, k, t, x) = true
set_option maxRecDepth 100000 in
set_option maxHeartbeats 2000000 in
theorem ruSlotText_any (v : ByteArray) (k : Int) (t x : ByteArray) (h : GoodSl v k t x) (m : Int) (w : World) (hm : HasMax w m) :
    Calls Tryz.prog 92 #[.agg #[.string v, .int .i64 k, .string t, .string x]] w fun e w' => e = .returned (.string (slotT v k t x)) ∧ Below w.heap.size w w' := by
  have hsm := slot_small h
  have HB := Lib.hid (below_new w (.cells #[.string v, .int .i64 k, .string t, .string x] 33))
  have Hm := Lib.hid (cell_below HB.out hm)
  unfold GoodSl slotB at h
  by_cases h0 : v.size = 0
  · rw [if_pos h0] at h
    have h : mayS k t x = true := h
    have HR : Hid (slotT v k t x = strOfNums (textL k t x)) := Lib.hid (by unfold slotT slotL; rw [if_pos h0])
    have HT := Lib.hid (fun W (hW : HasMax W m) => text_any k t x (by have := hsm.2.1; show t.size ≤ _; simp at this; omega) (by have := hsm.2.2.1; show x.size ≤ _; simp at this; omega) m W hW)
    unfold TextDone at HT
    rw [if_pos h] at HT
    obtain rfl := empty_size h0
    generalize slotT _ k t x = R at *
    generalize strOfNums (textL k t x) = Q at *
    clear h h0 hsm hm
    go_enter Tryz.func92, Tryz.ntmps92
    go_wp2_with (go_at_call 122; refine (HT.out _ Hm.out).mono ?_; rintro e w' ⟨rfl, hB⟩)
    go_ret
    exact ⟨ret_str HR.out.symm, below_step HB.out hB⟩
  · have HR : Hid (slotT v k t x = ⟨#[63]⟩ ++ v) := Lib.hid (by
      unfold slotT slotL
      rw [if_neg h0]
      refine (strOf_eq ?_).symm
      rw [bs_app]
      rfl)
    have hne := string_neq_empty h0
    have hvz : v.size ≤ 32 := hsm.1
    have f0 : ¬ 9223372036854775807 < 1 + v.size := by omega
    generalize slotT _ k t x = R at *
    clear h h0 hsm hm
    go_enter Tryz.func92, Tryz.ntmps92
    go_wp2
    go_ret
    exact ⟨ret_str HR.out.symm, HB.out⟩

theorem held12_start (w : World) (m : Int) (hm : HasMax w m) (a0 : ByteArray) (a1 : Int) (a2 a3 : ByteArray) (b0 : ByteArray) (b1 : Int) (b2 b3 : ByteArray) (c0 : ByteArray) (c1 : Int) (c2 c3 : ByteArray) : (fun W' => W'.cell? ⟨w.heap.size, 0, none⟩ = some (.string a0) ∧ W'.cell? ⟨w.heap.size, 1, none⟩ = some (.int .i64 a1) ∧ W'.cell? ⟨w.heap.size, 2, none⟩ = some (.string a2) ∧ W'.cell? ⟨w.heap.size, 3, none⟩ = some (.string a3) ∧ W'.cell? ⟨w.heap.size, 4, none⟩ = some (.string b0) ∧ W'.cell? ⟨w.heap.size, 5, none⟩ = some (.int .i64 b1) ∧ W'.cell? ⟨w.heap.size, 6, none⟩ = some (.string b2) ∧ W'.cell? ⟨w.heap.size, 7, none⟩ = some (.string b3) ∧ W'.cell? ⟨w.heap.size, 8, none⟩ = some (.string c0) ∧ W'.cell? ⟨w.heap.size, 9, none⟩ = some (.int .i64 c1) ∧ W'.cell? ⟨w.heap.size, 10, none⟩ = some (.string c2) ∧ W'.cell? ⟨w.heap.size, 11, none⟩ = some (.string c3) ∧ W'.cell? ⟨1, 0, none⟩ = some (.int .i64 m) ∧ Below w.heap.size w W') (w.alloc (.cells #[.string a0, .int .i64 a1, .string a2, .string a3, .string b0, .int .i64 b1, .string b2, .string b3, .string c0, .int .i64 c1, .string c2, .string c3] 35)).drew := by
  have hB : Below w.heap.size w (w.alloc (.cells #[.string a0, .int .i64 a1, .string a2, .string a3, .string b0, .int .i64 b1, .string b2, .string b3, .string c0, .int .i64 c1, .string c2, .string c3] 35)) := below_new _ _
  have h : ∀ o v, (w.alloc (.cells #[.string a0, .int .i64 a1, .string a2, .string a3, .string b0, .int .i64 b1, .string b2, .string b3, .string c0, .int .i64 c1, .string c2, .string c3] 35)).cell? ⟨w.heap.size, o, none⟩ = v → (w.alloc (.cells #[.string a0, .int .i64 a1, .string a2, .string a3, .string b0, .int .i64 b1, .string b2, .string b3, .string c0, .int .i64 c1, .string c2, .string c3] 35)).drew.cell? ⟨w.heap.size, o, none⟩ = v := fun o v e => e
  refine ⟨h 0 _ ?_, h 1 _ ?_, h 2 _ ?_, h 3 _ ?_, h 4 _ ?_, h 5 _ ?_, h 6 _ ?_, h 7 _ ?_, h 8 _ ?_, h 9 _ ?_, h 10 _ ?_, h 11 _ ?_, cell_below hB.drew hm, hB.drew⟩
  all_goals
    rw [World.cell?_alloc_at _ _ _ _ rfl]
    rfl
theorem held12_step {w u v : World} {m : Int} {a0 a2 a3 b0 b2 b3 c0 c2 c3 : ByteArray} {a1 b1 c1 : Int} (h : (fun W' => W'.cell? ⟨w.heap.size, 0, none⟩ = some (.string a0) ∧ W'.cell? ⟨w.heap.size, 1, none⟩ = some (.int .i64 a1) ∧ W'.cell? ⟨w.heap.size, 2, none⟩ = some (.string a2) ∧ W'.cell? ⟨w.heap.size, 3, none⟩ = some (.string a3) ∧ W'.cell? ⟨w.heap.size, 4, none⟩ = some (.string b0) ∧ W'.cell? ⟨w.heap.size, 5, none⟩ = some (.int .i64 b1) ∧ W'.cell? ⟨w.heap.size, 6, none⟩ = some (.string b2) ∧ W'.cell? ⟨w.heap.size, 7, none⟩ = some (.string b3) ∧ W'.cell? ⟨w.heap.size, 8, none⟩ = some (.string c0) ∧ W'.cell? ⟨w.heap.size, 9, none⟩ = some (.int .i64 c1) ∧ W'.cell? ⟨w.heap.size, 10, none⟩ = some (.string c2) ∧ W'.cell? ⟨w.heap.size, 11, none⟩ = some (.string c3) ∧ W'.cell? ⟨1, 0, none⟩ = some (.int .i64 m) ∧ Below w.heap.size w W') u) (k : Below u.heap.size u v) : (fun W' => W'.cell? ⟨w.heap.size, 0, none⟩ = some (.string a0) ∧ W'.cell? ⟨w.heap.size, 1, none⟩ = some (.int .i64 a1) ∧ W'.cell? ⟨w.heap.size, 2, none⟩ = some (.string a2) ∧ W'.cell? ⟨w.heap.size, 3, none⟩ = some (.string a3) ∧ W'.cell? ⟨w.heap.size, 4, none⟩ = some (.string b0) ∧ W'.cell? ⟨w.heap.size, 5, none⟩ = some (.int .i64 b1) ∧ W'.cell? ⟨w.heap.size, 6, none⟩ = some (.string b2) ∧ W'.cell? ⟨w.heap.size, 7, none⟩ = some (.string b3) ∧ W'.cell? ⟨w.heap.size, 8, none⟩ = some (.string c0) ∧ W'.cell? ⟨w.heap.size, 9, none⟩ = some (.int .i64 c1) ∧ W'.cell? ⟨w.heap.size, 10, none⟩ = some (.string c2) ∧ W'.cell? ⟨w.heap.size, 11, none⟩ = some (.string c3) ∧ W'.cell? ⟨1, 0, none⟩ = some (.int .i64 m) ∧ Below w.heap.size w W') v := by
  obtain ⟨h0, h1, h2, h3, h4, h5, h6, h7, h8, h9, h10, h11, h12, hB⟩ := h
  exact ⟨cell_below k h0, cell_below k h1, cell_below k h2, cell_below k h3, cell_below k h4, cell_below k h5, cell_below k h6, cell_below k h7, cell_below k h8, cell_below k h9, cell_below k h10, cell_below k h11, cell_below k h12, below_step hB k⟩

theorem held12_max {w u : World} {m : Int} {a0 a2 a3 b0 b2 b3 c0 c2 c3 : ByteArray} {a1 b1 c1 : Int} (h : (fun W' => W'.cell? ⟨w.heap.size, 0, none⟩ = some (.string a0) ∧ W'.cell? ⟨w.heap.size, 1, none⟩ = some (.int .i64 a1) ∧ W'.cell? ⟨w.heap.size, 2, none⟩ = some (.string a2) ∧ W'.cell? ⟨w.heap.size, 3, none⟩ = some (.string a3) ∧ W'.cell? ⟨w.heap.size, 4, none⟩ = some (.string b0) ∧ W'.cell? ⟨w.heap.size, 5, none⟩ = some (.int .i64 b1) ∧ W'.cell? ⟨w.heap.size, 6, none⟩ = some (.string b2) ∧ W'.cell? ⟨w.heap.size, 7, none⟩ = some (.string b3) ∧ W'.cell? ⟨w.heap.size, 8, none⟩ = some (.string c0) ∧ W'.cell? ⟨w.heap.size, 9, none⟩ = some (.int .i64 c1) ∧ W'.cell? ⟨w.heap.size, 10, none⟩ = some (.string c2) ∧ W'.cell? ⟨w.heap.size, 11, none⟩ = some (.string c3) ∧ W'.cell? ⟨1, 0, none⟩ = some (.int .i64 m) ∧ Below w.heap.size w W') u) : HasMax u m := h.2.2.2.2.2.2.2.2.2.2.2.2.1
def patT (a0 : ByteArray) (a1 : Int) (a2 a3 : ByteArray) (b0 : ByteArray) (b1 : Int) (b2 b3 : ByteArray) (c0 : ByteArray) (c1 : Int) (c2 c3 : ByteArray) : ByteArray := strOfNums (patL ((a0, a1, a2, a3), (b0, b1, b2, b3), (c0, c1, c2, c3)))
theorem patT_eq (a0 : ByteArray) (a1 : Int) (a2 a3 : ByteArray) (b0 : ByteArray) (b1 : Int) (b2 b3 : ByteArray) (c0 : ByteArray) (c1 : Int) (c2 c3 : ByteArray) : patT a0 a1 a2 a3 b0 b1 b2 b3 c0 c1 c2 c3 = ⟨#[40]⟩ ++ slotT a0 a1 a2 a3 ++ ⟨#[32]⟩ ++ slotT b0 b1 b2 b3 ++ ⟨#[32]⟩ ++ slotT c0 c1 c2 c3 ++ ⟨#[41]⟩ := by
  unfold patT slotT
  refine (strOf_eq ?_).symm
  rw [bs_app, bs_app, bs_app, bs_app, bs_app, bs_app, bs_strOfNums (slotL_byte _), bs_strOfNums (slotL_byte _), bs_strOfNums (slotL_byte _)]
  show [40] ++ _ ++ [32] ++ _ ++ [32] ++ _ ++ [41] = 40 :: (_ ++ 32 :: (_ ++ 32 :: (_ ++ [41])))
  simp
theorem slotT_len {v : ByteArray} {k : Int} {t x : ByteArray} (h : GoodSl v k t x) : (slotT v k t x).size ≤ 25100 := by
  unfold slotT
  rw [strOfNums_size]
  exact (slot_small h).2.2.2

set_option maxRecDepth 100000 in
set_option maxHeartbeats 4000000 in
theorem ruPatText_any (a0 : ByteArray) (a1 : Int) (a2 a3 : ByteArray) (b0 : ByteArray) (b1 : Int) (b2 b3 : ByteArray) (c0 : ByteArray) (c1 : Int) (c2 c3 : ByteArray) (GA : GoodSl a0 a1 a2 a3) (GB : GoodSl b0 b1 b2 b3) (GC : GoodSl c0 c1 c2 c3) (m : Int) (w : World) (hm : HasMax w m) :
    Calls Tryz.prog 82 #[.agg #[.string a0, .int .i64 a1, .string a2, .string a3, .string b0, .int .i64 b1, .string b2, .string b3, .string c0, .int .i64 c1, .string c2, .string c3]] w fun e w' => e = .returned (.string (patT a0 a1 a2 a3 b0 b1 b2 b3 c0 c1 c2 c3)) ∧ Below w.heap.size w w' := by
  have MT := fun v k t x (h : GoodSl v k t x) W (hW : HasMax W m) => ruSlotText_any v k t x h m W hW
  have ZA := slotT_len GA
  have ZB := slotT_len GB
  have ZC := slotT_len GC
  have HT := Lib.hid (patT_eq a0 a1 a2 a3 b0 b1 b2 b3 c0 c1 c2 c3)
  have HS := Lib.hid (held12_start w m hm a0 a1 a2 a3 b0 b1 b2 b3 c0 c1 c2 c3)
  clear hm
  generalize slotT = T at *
  generalize patT a0 a1 a2 a3 b0 b1 b2 b3 c0 c1 c2 c3 = R at *
  have f0 : ¬ 9223372036854775807 < 1 + (T a0 a1 a2 a3).size := by omega
  have f1 : ¬ 9223372036854775807 < 1 + (T a0 a1 a2 a3).size + 1 := by omega
  have f2 : ¬ 9223372036854775807 < 1 + (T a0 a1 a2 a3).size + 1 + (T b0 b1 b2 b3).size := by omega
  have f3 : ¬ 9223372036854775807 < 1 + (T a0 a1 a2 a3).size + 1 + (T b0 b1 b2 b3).size + 1 := by omega
  have f4 : ¬ 9223372036854775807 < 1 + (T a0 a1 a2 a3).size + 1 + (T b0 b1 b2 b3).size + 1 + (T c0 c1 c2 c3).size := by omega
  have f5 : ¬ 9223372036854775807 < 1 + (T a0 a1 a2 a3).size + 1 + (T b0 b1 b2 b3).size + 1 + (T c0 c1 c2 c3).size + 1 := by omega
  clear ZA ZB ZC
  generalize GoodSl = G at *
  go_enter Tryz.func82, Tryz.ntmps82
  go_wp2
  go_region_held3 (fun W' => W'.cell? ⟨w.heap.size, 0, none⟩ = some (.string a0) ∧ W'.cell? ⟨w.heap.size, 1, none⟩ = some (.int .i64 a1) ∧ W'.cell? ⟨w.heap.size, 2, none⟩ = some (.string a2) ∧ W'.cell? ⟨w.heap.size, 3, none⟩ = some (.string a3) ∧ W'.cell? ⟨w.heap.size, 4, none⟩ = some (.string b0) ∧ W'.cell? ⟨w.heap.size, 5, none⟩ = some (.int .i64 b1) ∧ W'.cell? ⟨w.heap.size, 6, none⟩ = some (.string b2) ∧ W'.cell? ⟨w.heap.size, 7, none⟩ = some (.string b3) ∧ W'.cell? ⟨w.heap.size, 8, none⟩ = some (.string c0) ∧ W'.cell? ⟨w.heap.size, 9, none⟩ = some (.int .i64 c1) ∧ W'.cell? ⟨w.heap.size, 10, none⟩ = some (.string c2) ∧ W'.cell? ⟨w.heap.size, 11, none⟩ = some (.string c3) ∧ W'.cell? ⟨1, 0, none⟩ = some (.int .i64 m) ∧ Below w.heap.size w W') ((first | assumption | exact HS.out | exact held12_step (by assumption) (by assumption))) ((go_at_call 92; refine (MT _ _ _ _ (by assumption) _ (held12_max (by assumption))).mono ?_; rintro e w3 ⟨rfl, hB3⟩))
  all_goals
    rename_i hHeld
    have hb := hHeld.2.2.2.2.2.2.2.2.2.2.2.2.2
    go_wp2
    go_ret
    exact ⟨ret_str HT.out.symm, hb⟩
end Go.Proofs.YtbcoklbfebmpoaaGreatDoor

/-
  CONTRACTS OF THE CLOSURES OF rules.writers, AND OF ITS MAP. Written by tools/genruwrite.py.
-/

namespace Go.Proofs.YtbcoklbfebmpoaaGreatDoor
open Go.RowKit
open Utf Term
set_option linter.unusedVariables false
set_option linter.unusedSimpArgs false

theorem heldP_start (w : World) (m : Int) (hm : HasMax w m) (c : Nat) (s : ByteArray) (hc : w.cell? ⟨c, 0, none⟩ = some (.string s)) (k : Int) (a0 : ByteArray) (a1 : Int) (a2 a3 : ByteArray) (b0 : ByteArray) (b1 : Int) (b2 b3 : ByteArray) (c0 : ByteArray) (c1 : Int) (c2 c3 : ByteArray) (x0 : ByteArray) (x1 : Int) (x2 x3 : ByteArray) (y0 : ByteArray) (y1 : Int) (y2 y3 : ByteArray) : (fun W' => W'.cell? ⟨c, 0, none⟩ = some (.string s) ∧ W'.cell? ⟨w.heap.size, 1, none⟩ = some (.string a0) ∧ W'.cell? ⟨w.heap.size, 2, none⟩ = some (.int .i64 a1) ∧ W'.cell? ⟨w.heap.size, 3, none⟩ = some (.string a2) ∧ W'.cell? ⟨w.heap.size, 4, none⟩ = some (.string a3) ∧ W'.cell? ⟨w.heap.size, 5, none⟩ = some (.string b0) ∧ W'.cell? ⟨w.heap.size, 6, none⟩ = some (.int .i64 b1) ∧ W'.cell? ⟨w.heap.size, 7, none⟩ = some (.string b2) ∧ W'.cell? ⟨w.heap.size, 8, none⟩ = some (.string b3) ∧ W'.cell? ⟨w.heap.size, 9, none⟩ = some (.string c0) ∧ W'.cell? ⟨w.heap.size, 10, none⟩ = some (.int .i64 c1) ∧ W'.cell? ⟨w.heap.size, 11, none⟩ = some (.string c2) ∧ W'.cell? ⟨w.heap.size, 12, none⟩ = some (.string c3) ∧ W'.cell? ⟨1, 0, none⟩ = some (.int .i64 m) ∧ Below w.heap.size w W') (w.alloc (.cells #[.int .i64 k, .string a0, .int .i64 a1, .string a2, .string a3, .string b0, .int .i64 b1, .string b2, .string b3, .string c0, .int .i64 c1, .string c2, .string c3, .string x0, .int .i64 x1, .string x2, .string x3, .string y0, .int .i64 y1, .string y2, .string y3] 37)).drew := by
  have hB : Below w.heap.size w (w.alloc (.cells #[.int .i64 k, .string a0, .int .i64 a1, .string a2, .string a3, .string b0, .int .i64 b1, .string b2, .string b3, .string c0, .int .i64 c1, .string c2, .string c3, .string x0, .int .i64 x1, .string x2, .string x3, .string y0, .int .i64 y1, .string y2, .string y3] 37)) := below_new _ _
  have h : ∀ o v, (w.alloc (.cells #[.int .i64 k, .string a0, .int .i64 a1, .string a2, .string a3, .string b0, .int .i64 b1, .string b2, .string b3, .string c0, .int .i64 c1, .string c2, .string c3, .string x0, .int .i64 x1, .string x2, .string x3, .string y0, .int .i64 y1, .string y2, .string y3] 37)).cell? ⟨w.heap.size, o, none⟩ = v → (w.alloc (.cells #[.int .i64 k, .string a0, .int .i64 a1, .string a2, .string a3, .string b0, .int .i64 b1, .string b2, .string b3, .string c0, .int .i64 c1, .string c2, .string c3, .string x0, .int .i64 x1, .string x2, .string x3, .string y0, .int .i64 y1, .string y2, .string y3] 37)).drew.cell? ⟨w.heap.size, o, none⟩ = v := fun o v e => e
  refine ⟨cell_below hB.drew hc, h 1 _ ?_, h 2 _ ?_, h 3 _ ?_, h 4 _ ?_, h 5 _ ?_, h 6 _ ?_, h 7 _ ?_, h 8 _ ?_, h 9 _ ?_, h 10 _ ?_, h 11 _ ?_, h 12 _ ?_, cell_below hB.drew hm, hB.drew⟩
  all_goals
    rw [World.cell?_alloc_at _ _ _ _ rfl]
    rfl
theorem heldP_step {w u v : World} {m : Int} {c : Nat} {s : ByteArray} {a0 a2 a3 b0 b2 b3 c0 c2 c3 : ByteArray} {a1 b1 c1 : Int} (h : (fun W' => W'.cell? ⟨c, 0, none⟩ = some (.string s) ∧ W'.cell? ⟨w.heap.size, 1, none⟩ = some (.string a0) ∧ W'.cell? ⟨w.heap.size, 2, none⟩ = some (.int .i64 a1) ∧ W'.cell? ⟨w.heap.size, 3, none⟩ = some (.string a2) ∧ W'.cell? ⟨w.heap.size, 4, none⟩ = some (.string a3) ∧ W'.cell? ⟨w.heap.size, 5, none⟩ = some (.string b0) ∧ W'.cell? ⟨w.heap.size, 6, none⟩ = some (.int .i64 b1) ∧ W'.cell? ⟨w.heap.size, 7, none⟩ = some (.string b2) ∧ W'.cell? ⟨w.heap.size, 8, none⟩ = some (.string b3) ∧ W'.cell? ⟨w.heap.size, 9, none⟩ = some (.string c0) ∧ W'.cell? ⟨w.heap.size, 10, none⟩ = some (.int .i64 c1) ∧ W'.cell? ⟨w.heap.size, 11, none⟩ = some (.string c2) ∧ W'.cell? ⟨w.heap.size, 12, none⟩ = some (.string c3) ∧ W'.cell? ⟨1, 0, none⟩ = some (.int .i64 m) ∧ Below w.heap.size w W') u) (k : Below u.heap.size u v) : (fun W' => W'.cell? ⟨c, 0, none⟩ = some (.string s) ∧ W'.cell? ⟨w.heap.size, 1, none⟩ = some (.string a0) ∧ W'.cell? ⟨w.heap.size, 2, none⟩ = some (.int .i64 a1) ∧ W'.cell? ⟨w.heap.size, 3, none⟩ = some (.string a2) ∧ W'.cell? ⟨w.heap.size, 4, none⟩ = some (.string a3) ∧ W'.cell? ⟨w.heap.size, 5, none⟩ = some (.string b0) ∧ W'.cell? ⟨w.heap.size, 6, none⟩ = some (.int .i64 b1) ∧ W'.cell? ⟨w.heap.size, 7, none⟩ = some (.string b2) ∧ W'.cell? ⟨w.heap.size, 8, none⟩ = some (.string b3) ∧ W'.cell? ⟨w.heap.size, 9, none⟩ = some (.string c0) ∧ W'.cell? ⟨w.heap.size, 10, none⟩ = some (.int .i64 c1) ∧ W'.cell? ⟨w.heap.size, 11, none⟩ = some (.string c2) ∧ W'.cell? ⟨w.heap.size, 12, none⟩ = some (.string c3) ∧ W'.cell? ⟨1, 0, none⟩ = some (.int .i64 m) ∧ Below w.heap.size w W') v := by
  obtain ⟨h0, h1, h2, h3, h4, h5, h6, h7, h8, h9, h10, h11, h12, h13, hB⟩ := h
  exact ⟨cell_below k h0, cell_below k h1, cell_below k h2, cell_below k h3, cell_below k h4, cell_below k h5, cell_below k h6, cell_below k h7, cell_below k h8, cell_below k h9, cell_below k h10, cell_below k h11, cell_below k h12, cell_below k h13, below_step hB k⟩
theorem heldP_max {w u : World} {m : Int} {c : Nat} {s : ByteArray} {a0 a2 a3 b0 b2 b3 c0 c2 c3 : ByteArray} {a1 b1 c1 : Int} (h : (fun W' => W'.cell? ⟨c, 0, none⟩ = some (.string s) ∧ W'.cell? ⟨w.heap.size, 1, none⟩ = some (.string a0) ∧ W'.cell? ⟨w.heap.size, 2, none⟩ = some (.int .i64 a1) ∧ W'.cell? ⟨w.heap.size, 3, none⟩ = some (.string a2) ∧ W'.cell? ⟨w.heap.size, 4, none⟩ = some (.string a3) ∧ W'.cell? ⟨w.heap.size, 5, none⟩ = some (.string b0) ∧ W'.cell? ⟨w.heap.size, 6, none⟩ = some (.int .i64 b1) ∧ W'.cell? ⟨w.heap.size, 7, none⟩ = some (.string b2) ∧ W'.cell? ⟨w.heap.size, 8, none⟩ = some (.string b3) ∧ W'.cell? ⟨w.heap.size, 9, none⟩ = some (.string c0) ∧ W'.cell? ⟨w.heap.size, 10, none⟩ = some (.int .i64 c1) ∧ W'.cell? ⟨w.heap.size, 11, none⟩ = some (.string c2) ∧ W'.cell? ⟨w.heap.size, 12, none⟩ = some (.string c3) ∧ W'.cell? ⟨1, 0, none⟩ = some (.int .i64 m) ∧ Below w.heap.size w W') u) : HasMax u m := h.2.2.2.2.2.2.2.2.2.2.2.2.2.1
theorem heldA_start (w : World) (m : Int) (hm : HasMax w m) (c : Nat) (s : ByteArray) (hc : w.cell? ⟨c, 0, none⟩ = some (.string s)) (k : Int) (a0 : ByteArray) (a1 : Int) (a2 a3 : ByteArray) (b0 : ByteArray) (b1 : Int) (b2 b3 : ByteArray) (c0 : ByteArray) (c1 : Int) (c2 c3 : ByteArray) (x0 : ByteArray) (x1 : Int) (x2 x3 : ByteArray) (y0 : ByteArray) (y1 : Int) (y2 y3 : ByteArray) : (fun W' => W'.cell? ⟨c, 0, none⟩ = some (.string s) ∧ W'.cell? ⟨w.heap.size, 13, none⟩ = some (.string x0) ∧ W'.cell? ⟨w.heap.size, 14, none⟩ = some (.int .i64 x1) ∧ W'.cell? ⟨w.heap.size, 15, none⟩ = some (.string x2) ∧ W'.cell? ⟨w.heap.size, 16, none⟩ = some (.string x3) ∧ W'.cell? ⟨w.heap.size, 17, none⟩ = some (.string y0) ∧ W'.cell? ⟨w.heap.size, 18, none⟩ = some (.int .i64 y1) ∧ W'.cell? ⟨w.heap.size, 19, none⟩ = some (.string y2) ∧ W'.cell? ⟨w.heap.size, 20, none⟩ = some (.string y3) ∧ W'.cell? ⟨1, 0, none⟩ = some (.int .i64 m) ∧ Below w.heap.size w W') (w.alloc (.cells #[.int .i64 k, .string a0, .int .i64 a1, .string a2, .string a3, .string b0, .int .i64 b1, .string b2, .string b3, .string c0, .int .i64 c1, .string c2, .string c3, .string x0, .int .i64 x1, .string x2, .string x3, .string y0, .int .i64 y1, .string y2, .string y3] 37)).drew := by
  have hB : Below w.heap.size w (w.alloc (.cells #[.int .i64 k, .string a0, .int .i64 a1, .string a2, .string a3, .string b0, .int .i64 b1, .string b2, .string b3, .string c0, .int .i64 c1, .string c2, .string c3, .string x0, .int .i64 x1, .string x2, .string x3, .string y0, .int .i64 y1, .string y2, .string y3] 37)) := below_new _ _
  have h : ∀ o v, (w.alloc (.cells #[.int .i64 k, .string a0, .int .i64 a1, .string a2, .string a3, .string b0, .int .i64 b1, .string b2, .string b3, .string c0, .int .i64 c1, .string c2, .string c3, .string x0, .int .i64 x1, .string x2, .string x3, .string y0, .int .i64 y1, .string y2, .string y3] 37)).cell? ⟨w.heap.size, o, none⟩ = v → (w.alloc (.cells #[.int .i64 k, .string a0, .int .i64 a1, .string a2, .string a3, .string b0, .int .i64 b1, .string b2, .string b3, .string c0, .int .i64 c1, .string c2, .string c3, .string x0, .int .i64 x1, .string x2, .string x3, .string y0, .int .i64 y1, .string y2, .string y3] 37)).drew.cell? ⟨w.heap.size, o, none⟩ = v := fun o v e => e
  refine ⟨cell_below hB.drew hc, h 13 _ ?_, h 14 _ ?_, h 15 _ ?_, h 16 _ ?_, h 17 _ ?_, h 18 _ ?_, h 19 _ ?_, h 20 _ ?_, cell_below hB.drew hm, hB.drew⟩
  all_goals
    rw [World.cell?_alloc_at _ _ _ _ rfl]
    rfl
theorem heldA_step {w u v : World} {m : Int} {c : Nat} {s : ByteArray} {x0 x2 x3 y0 y2 y3 : ByteArray} {x1 y1 : Int} (h : (fun W' => W'.cell? ⟨c, 0, none⟩ = some (.string s) ∧ W'.cell? ⟨w.heap.size, 13, none⟩ = some (.string x0) ∧ W'.cell? ⟨w.heap.size, 14, none⟩ = some (.int .i64 x1) ∧ W'.cell? ⟨w.heap.size, 15, none⟩ = some (.string x2) ∧ W'.cell? ⟨w.heap.size, 16, none⟩ = some (.string x3) ∧ W'.cell? ⟨w.heap.size, 17, none⟩ = some (.string y0) ∧ W'.cell? ⟨w.heap.size, 18, none⟩ = some (.int .i64 y1) ∧ W'.cell? ⟨w.heap.size, 19, none⟩ = some (.string y2) ∧ W'.cell? ⟨w.heap.size, 20, none⟩ = some (.string y3) ∧ W'.cell? ⟨1, 0, none⟩ = some (.int .i64 m) ∧ Below w.heap.size w W') u) (k : Below u.heap.size u v) : (fun W' => W'.cell? ⟨c, 0, none⟩ = some (.string s) ∧ W'.cell? ⟨w.heap.size, 13, none⟩ = some (.string x0) ∧ W'.cell? ⟨w.heap.size, 14, none⟩ = some (.int .i64 x1) ∧ W'.cell? ⟨w.heap.size, 15, none⟩ = some (.string x2) ∧ W'.cell? ⟨w.heap.size, 16, none⟩ = some (.string x3) ∧ W'.cell? ⟨w.heap.size, 17, none⟩ = some (.string y0) ∧ W'.cell? ⟨w.heap.size, 18, none⟩ = some (.int .i64 y1) ∧ W'.cell? ⟨w.heap.size, 19, none⟩ = some (.string y2) ∧ W'.cell? ⟨w.heap.size, 20, none⟩ = some (.string y3) ∧ W'.cell? ⟨1, 0, none⟩ = some (.int .i64 m) ∧ Below w.heap.size w W') v := by
  obtain ⟨h0, h1, h2, h3, h4, h5, h6, h7, h8, h9, hB⟩ := h
  exact ⟨cell_below k h0, cell_below k h1, cell_below k h2, cell_below k h3, cell_below k h4, cell_below k h5, cell_below k h6, cell_below k h7, cell_below k h8, cell_below k h9, below_step hB k⟩
theorem heldA_max {w u : World} {m : Int} {c : Nat} {s : ByteArray} {x0 x2 x3 y0 y2 y3 : ByteArray} {x1 y1 : Int} (h : (fun W' => W'.cell? ⟨c, 0, none⟩ = some (.string s) ∧ W'.cell? ⟨w.heap.size, 13, none⟩ = some (.string x0) ∧ W'.cell? ⟨w.heap.size, 14, none⟩ = some (.int .i64 x1) ∧ W'.cell? ⟨w.heap.size, 15, none⟩ = some (.string x2) ∧ W'.cell? ⟨w.heap.size, 16, none⟩ = some (.string x3) ∧ W'.cell? ⟨w.heap.size, 17, none⟩ = some (.string y0) ∧ W'.cell? ⟨w.heap.size, 18, none⟩ = some (.int .i64 y1) ∧ W'.cell? ⟨w.heap.size, 19, none⟩ = some (.string y2) ∧ W'.cell? ⟨w.heap.size, 20, none⟩ = some (.string y3) ∧ W'.cell? ⟨1, 0, none⟩ = some (.int .i64 m) ∧ Below w.heap.size w W') u) : HasMax u m := h.2.2.2.2.2.2.2.2.2.1

theorem patT_len {a0 a2 a3 b0 b2 b3 c0 c2 c3 : ByteArray} {a1 b1 c1 : Int} (GA : GoodSl a0 a1 a2 a3) (GB : GoodSl b0 b1 b2 b3) (GC : GoodSl c0 c1 c2 c3) : (patT a0 a1 a2 a3 b0 b1 b2 b3 c0 c1 c2 c3).size ≤ 75400 := by
  rw [patT_eq]
  have ZA := slotT_len GA
  have ZB := slotT_len GB
  have ZC := slotT_len GC
  simp only [ByteArray.size_append]
  have e1 : (⟨#[40]⟩ : ByteArray).size = 1 := rfl
  have e2 : (⟨#[32]⟩ : ByteArray).size = 1 := rfl
  have e3 : (⟨#[41]⟩ : ByteArray).size = 1 := rfl
  omega

set_option maxRecDepth 100000 in
set_option maxHeartbeats 4000000 in
theorem ruCloP_any (c : Nat) (s : ByteArray) (hs : s.size ≤ 1000) (k : Int) (a0 : ByteArray) (a1 : Int) (a2 a3 : ByteArray) (b0 : ByteArray) (b1 : Int) (b2 b3 : ByteArray) (c0 : ByteArray) (c1 : Int) (c2 c3 : ByteArray) (x0 : ByteArray) (x1 : Int) (x2 x3 : ByteArray) (y0 : ByteArray) (y1 : Int) (y2 y3 : ByteArray) (GA : GoodSl a0 a1 a2 a3) (GB : GoodSl b0 b1 b2 b3) (GC : GoodSl c0 c1 c2 c3) (m : Int) (w : World) (hm : HasMax w m) (hc : w.cell? ⟨c, 0, none⟩ = some (.string s)) :
    Calls Tryz.prog 89 #[.agg #[.int .i64 k, .string a0, .int .i64 a1, .string a2, .string a3, .string b0, .int .i64 b1, .string b2, .string b3, .string c0, .int .i64 c1, .string c2, .string c3, .string x0, .int .i64 x1, .string x2, .string x3, .string y0, .int .i64 y1, .string y2, .string y3], .pointer (some ⟨c, 0, none⟩)] w fun e w' => e = .returned (.string (s ++ patT a0 a1 a2 a3 b0 b1 b2 b3 c0 c1 c2 c3)) ∧ Below w.heap.size w w' := by
  have MT := fun W (hW : HasMax W m) => ruPatText_any a0 a1 a2 a3 b0 b1 b2 b3 c0 c1 c2 c3 GA GB GC m W hW
  have ZP := patT_len GA GB GC
  have HS := Lib.hid (heldP_start w m hm c s hc k a0 a1 a2 a3 b0 b1 b2 b3 c0 c1 c2 c3 x0 x1 x2 x3 y0 y1 y2 y3)
  have HM := Lib.hid MT
  clear hm hc GA GB GC MT
  generalize patT a0 a1 a2 a3 b0 b1 b2 b3 c0 c1 c2 c3 = R at *
  have f0 : ¬ 9223372036854775807 < s.size + R.size := by omega
  clear ZP
  go_enter Tryz.func89, Tryz.ntmps89
  go_wp2
  go_region_held3 (fun W' => W'.cell? ⟨c, 0, none⟩ = some (.string s) ∧ W'.cell? ⟨w.heap.size, 1, none⟩ = some (.string a0) ∧ W'.cell? ⟨w.heap.size, 2, none⟩ = some (.int .i64 a1) ∧ W'.cell? ⟨w.heap.size, 3, none⟩ = some (.string a2) ∧ W'.cell? ⟨w.heap.size, 4, none⟩ = some (.string a3) ∧ W'.cell? ⟨w.heap.size, 5, none⟩ = some (.string b0) ∧ W'.cell? ⟨w.heap.size, 6, none⟩ = some (.int .i64 b1) ∧ W'.cell? ⟨w.heap.size, 7, none⟩ = some (.string b2) ∧ W'.cell? ⟨w.heap.size, 8, none⟩ = some (.string b3) ∧ W'.cell? ⟨w.heap.size, 9, none⟩ = some (.string c0) ∧ W'.cell? ⟨w.heap.size, 10, none⟩ = some (.int .i64 c1) ∧ W'.cell? ⟨w.heap.size, 11, none⟩ = some (.string c2) ∧ W'.cell? ⟨w.heap.size, 12, none⟩ = some (.string c3) ∧ W'.cell? ⟨1, 0, none⟩ = some (.int .i64 m) ∧ Below w.heap.size w W') ((first | assumption | exact HS.out | exact heldP_step (by assumption) (by assumption))) ((go_at_call 82; refine (HM.out _ (heldP_max (by assumption))).mono ?_; rintro e w3 ⟨rfl, hB3⟩))
  all_goals
    rename_i hHeld
    have hb := hHeld.2.2.2.2.2.2.2.2.2.2.2.2.2.2
    go_wp2
    go_ret
    exact ⟨rfl, hb⟩

/-- The text of a condition. -/
def condT (s : ByteArray) (x0 : ByteArray) (x1 : Int) (x2 x3 : ByteArray) (y0 : ByteArray) (y1 : Int) (y2 y3 : ByteArray) : ByteArray := slotT x0 x1 x2 x3 ++ ⟨#[32]⟩ ++ s ++ ⟨#[32]⟩ ++ slotT y0 y1 y2 y3
set_option maxRecDepth 100000 in
set_option maxHeartbeats 4000000 in
theorem ruCloC_any (c : Nat) (s : ByteArray) (hs : s.size ≤ 1000) (k : Int) (a0 : ByteArray) (a1 : Int) (a2 a3 : ByteArray) (b0 : ByteArray) (b1 : Int) (b2 b3 : ByteArray) (c0 : ByteArray) (c1 : Int) (c2 c3 : ByteArray) (x0 : ByteArray) (x1 : Int) (x2 x3 : ByteArray) (y0 : ByteArray) (y1 : Int) (y2 y3 : ByteArray) (GA : GoodSl x0 x1 x2 x3) (GB : GoodSl y0 y1 y2 y3) (m : Int) (w : World) (hm : HasMax w m) (hc : w.cell? ⟨c, 0, none⟩ = some (.string s)) :
    Calls Tryz.prog 91 #[.agg #[.int .i64 k, .string a0, .int .i64 a1, .string a2, .string a3, .string b0, .int .i64 b1, .string b2, .string b3, .string c0, .int .i64 c1, .string c2, .string c3, .string x0, .int .i64 x1, .string x2, .string x3, .string y0, .int .i64 y1, .string y2, .string y3], .pointer (some ⟨c, 0, none⟩)] w fun e w' => e = .returned (.string (condT s x0 x1 x2 x3 y0 y1 y2 y3)) ∧ Below w.heap.size w w' := by
  have MT := fun v k t x (h : GoodSl v k t x) W (hW : HasMax W m) => ruSlotText_any v k t x h m W hW
  have ZA := slotT_len GA
  have ZB := slotT_len GB
  have HS := Lib.hid (heldA_start w m hm c s hc k a0 a1 a2 a3 b0 b1 b2 b3 c0 c1 c2 c3 x0 x1 x2 x3 y0 y1 y2 y3)
  have HT : Hid (condT s x0 x1 x2 x3 y0 y1 y2 y3 = slotT x0 x1 x2 x3 ++ ⟨#[32]⟩ ++ s ++ ⟨#[32]⟩ ++ slotT y0 y1 y2 y3) := Lib.hid rfl
  clear hm hc
  generalize condT s x0 x1 x2 x3 y0 y1 y2 y3 = R at *
  generalize slotT = T at *
  have f0 : ¬ 9223372036854775807 < (T x0 x1 x2 x3).size + 1 := by omega
  have f1 : ¬ 9223372036854775807 < (T x0 x1 x2 x3).size + 1 + s.size := by omega
  have f2 : ¬ 9223372036854775807 < (T x0 x1 x2 x3).size + 1 + s.size + 1 := by omega
  have f3 : ¬ 9223372036854775807 < (T x0 x1 x2 x3).size + 1 + s.size + 1 + (T y0 y1 y2 y3).size := by omega
  clear ZA ZB
  generalize GoodSl = G at *
  go_enter Tryz.func91, Tryz.ntmps91
  go_wp2
  go_region_held3 (fun W' => W'.cell? ⟨c, 0, none⟩ = some (.string s) ∧ W'.cell? ⟨w.heap.size, 13, none⟩ = some (.string x0) ∧ W'.cell? ⟨w.heap.size, 14, none⟩ = some (.int .i64 x1) ∧ W'.cell? ⟨w.heap.size, 15, none⟩ = some (.string x2) ∧ W'.cell? ⟨w.heap.size, 16, none⟩ = some (.string x3) ∧ W'.cell? ⟨w.heap.size, 17, none⟩ = some (.string y0) ∧ W'.cell? ⟨w.heap.size, 18, none⟩ = some (.int .i64 y1) ∧ W'.cell? ⟨w.heap.size, 19, none⟩ = some (.string y2) ∧ W'.cell? ⟨w.heap.size, 20, none⟩ = some (.string y3) ∧ W'.cell? ⟨1, 0, none⟩ = some (.int .i64 m) ∧ Below w.heap.size w W') ((first | assumption | exact HS.out | exact heldA_step (by assumption) (by assumption))) ((go_at_call 92; refine (MT _ _ _ _ (by assumption) _ (heldA_max (by assumption))).mono ?_; rintro e w3 ⟨rfl, hB3⟩))
  all_goals
    rename_i hHeld
    have hb := hHeld.2.2.2.2.2.2.2.2.2.2
    go_wp2
    go_ret
    exact ⟨ret_str HT.out.symm, hb⟩

theorem ruPattern_any (s : ByteArray) (w : World) : Calls Tryz.prog 88 #[.string s] w fun e w' =>
    e = .returned (.func (.func 89) #[] #[.pointer (some ⟨w.heap.size, 0, none⟩)]) ∧ w' = w.alloc (.cells #[.string s] 9) := by
  have hmf : ∀ (fn : Fn) (first cap : Array Value) (w : World), (Instr.makeFunc fn first cap).run Tryz.prog w = .ok (.func fn first cap) w := fun _ _ _ _ => rfl
  go_enter Tryz.func88, Tryz.ntmps88
  go_wp2
  go_ret
  exact ⟨rfl, rfl⟩
theorem ruCondition_any (s : ByteArray) (w : World) : Calls Tryz.prog 90 #[.string s] w fun e w' =>
    e = .returned (.func (.func 91) #[] #[.pointer (some ⟨w.heap.size, 0, none⟩)]) ∧ w' = w.alloc (.cells #[.string s] 9) := by
  have hmf : ∀ (fn : Fn) (first cap : Array Value) (w : World), (Instr.makeFunc fn first cap).run Tryz.prog w = .ok (.func fn first cap) w := fun _ _ _ _ => rfl
  go_enter Tryz.func90, Tryz.ntmps90
  go_wp2
  go_ret
  exact ⟨rfl, rfl⟩

/-- A closure's captured string. -/
def HoldsS (W : World) (c : Nat) (s : ByteArray) : Prop := W.heap[c]? = some (.cells #[.string s] 9 (0, 0))
abbrev wcloA (c : Nat) : Value := .func (.func 89) #[] #[.pointer (some ⟨c, 0, none⟩)]
abbrev wcloB (c : Nat) : Value := .func (.func 91) #[] #[.pointer (some ⟨c, 0, none⟩)]
abbrev entriesW (c1 c2 c3 c4 : Nat) : Array MapEntry := #[⟨.int .i64 1, wcloA c1, 0⟩, ⟨.int .i64 2, wcloA c2, 1⟩, ⟨.int .i64 3, wcloB c3, 2⟩, ⟨.int .i64 4, wcloB c4, 3⟩]
/-- What writers leaves: a map of four closures. -/
def Writers (W : World) (b c1 c2 c3 c4 : Nat) : Prop :=
  W.heap[b]? = some (.map (entriesW c1 c2 c3 c4) 4) ∧ HoldsS W c1 ⟨#[]⟩ ∧ HoldsS W c2 ⟨#[110, 111, 116, 32]⟩ ∧ HoldsS W c3 ⟨#[61]⟩ ∧ HoldsS W c4 ⟨#[33, 61]⟩
theorem holdsS_new (w : World) (s : ByteArray) : HoldsS (w.alloc (.cells #[.string s] 9)) w.heap.size s := World.alloc_heap_new w _
theorem HoldsS.grown {W W' : World} {c : Nat} {s : ByteArray} {row : Option Nat} (h : HoldsS W c s) (hg : W.grownBy W' row) (hr : row ≠ some c) : HoldsS W' c s :=
  (hg.block c (Array.getElem?_eq_some_iff.1 h).1 (fun e => hr e.symm)).trans h
theorem HoldsS.alloc {W : World} {c : Nat} {s : ByteArray} (h : HoldsS W c s) (o : Obj) : HoldsS (W.alloc o) c s := (Below.heap_alloc W o c (Array.getElem?_eq_some_iff.1 h).1).trans h
theorem HoldsS.below {W W' : World} {c : Nat} {s : ByteArray} (h : HoldsS W c s) (hB : Below W.heap.size W W') : HoldsS W' c s := (hB.block c (Array.getElem?_eq_some_iff.1 h).1).trans h
theorem HoldsS.cell {W : World} {c : Nat} {s : ByteArray} (h : HoldsS W c s) : W.cell? ⟨c, 0, none⟩ = some (.string s) := by
  unfold HoldsS at h
  unfold World.cell?
  rw [h]
  rfl
theorem Writers.below {W W' : World} {b c1 c2 c3 c4 : Nat} (h : Writers W b c1 c2 c3 c4) (k : Below W.heap.size W W') : Writers W' b c1 c2 c3 c4 :=
  ⟨(k.block b (Array.getElem?_eq_some_iff.1 h.1).1).trans h.1, h.2.1.below k, h.2.2.1.below k, h.2.2.2.1.below k, h.2.2.2.2.below k⟩

theorem HoldsS.other {W : World} {c g : Nat} {s : ByteArray} (h : HoldsS W c s) (hg : g ≠ c) (i : Nat) (v : Value) : HoldsS (W.setCell ⟨g, i, none⟩ v) c s := by
  unfold HoldsS at *
  rw [Below.heap_setCell W ⟨g, i, none⟩ v c (fun e => hg e.symm)]
  exact h
theorem Writers.other {W : World} {b c1 c2 c3 c4 g : Nat} (h : Writers W b c1 c2 c3 c4) (hb : g < b) (h1 : g < c1) (h2 : g < c2) (h3 : g < c3) (h4 : g < c4) (i : Nat) (v : Value) : Writers (W.setCell ⟨g, i, none⟩ v) b c1 c2 c3 c4 := by
  refine ⟨?_, h.2.1.other (by omega) i v, h.2.2.1.other (by omega) i v, h.2.2.2.1.other (by omega) i v, h.2.2.2.2.other (by omega) i v⟩
  rw [Below.heap_setCell W ⟨g, i, none⟩ v b (by show b ≠ g; omega)]
  exact h.1

set_option maxRecDepth 100000 in
set_option maxHeartbeats 2000000 in
theorem ruWriters_any (w : World) : Calls Tryz.prog 66 #[] w fun e w' => ∃ b c1 c2 c3 c4, e = .returned (.map (some b)) ∧ Writers w' b c1 c2 c3 c4 ∧ Below w.heap.size w w' ∧ (w.heap.size ≤ b ∧ w.heap.size ≤ c1 ∧ w.heap.size ≤ c2 ∧ w.heap.size ≤ c3 ∧ w.heap.size ≤ c4) := by
  have hmm := @run_makeMap_plain Tryz.prog
  go_enter Tryz.func66, Tryz.ntmps66
  go_wp2_with fail
  refine (ruPattern_any _ _).mono ?_
  rintro e w0 ⟨rfl, rfl⟩
  have h0 : ((w.alloc (.map #[] 0)).alloc (.cells #[.string (⟨#[]⟩ : ByteArray)] 9)).heap[w.heap.size]? = some (.map #[] 0) := (Below.heap_alloc _ _ _ (by simp)).trans (World.alloc_heap_new w _)
  have g0 := holdsS_new (w.alloc (.map #[] 0)) ⟨#[]⟩
  have b0 : Below w.heap.size w ((w.alloc (.map #[] 0)).alloc (.cells #[.string (⟨#[]⟩ : ByteArray)] 9)) := ((Below.refl _ w).alloc (Nat.le_refl _) _).alloc (by simp) _
  have n0 : w.heap.size + 2 ≤ ((w.alloc (.map #[] 0)).alloc (.cells #[.string (⟨#[]⟩ : ByteArray)] 9)).heap.size := by simp
  rw [World.size_alloc] at g0
  have H0 := Lib.hid h0
  have G0 := Lib.hid g0
  clear h0 g0
  go_wp2_with (refine wpList_insert_int _ rfl (.tmp 3) (.const (.int .i64 1)) (.tmp 5) 123 rfl 28 125 .i64 Tryz.underlying123 Tryz.underlying28 w.heap.size 0 #[] rfl H0.out 1 rfl _ rfl (by simp) ?_; intro w1 h1 k1)
  have G1 := Lib.hid (G0.out.grown k1 (by simp))
  have H1 := Lib.hid h1
  have b1 : Below w.heap.size w w1 := b0.grown k1 b0.size (fun k e => by cases e; exact Nat.le_refl _)
  have n1 : w.heap.size + 2 ≤ w1.heap.size := Nat.le_trans n0 k1.size
  clear h1 k1 H0 G0 b0 n0
  refine (ruPattern_any _ _).mono ?_
  rintro e w0 ⟨rfl, rfl⟩
  have m2 := Lib.hid ((Below.heap_alloc w1 (.cells #[.string (⟨#[110, 111, 116, 32]⟩ : ByteArray)] 9) w.heap.size (by omega)).trans H1.out)
  have A1 := Lib.hid (G1.out.alloc (.cells #[.string (⟨#[110, 111, 116, 32]⟩ : ByteArray)] 9))
  have A2 := Lib.hid (holdsS_new w1 ⟨#[110, 111, 116, 32]⟩)
  clear H1 G1
  go_wp2_with (refine wpList_insert_int _ rfl (.tmp 3) (.const (.int .i64 2)) (.tmp 7) 123 rfl 28 125 .i64 Tryz.underlying123 Tryz.underlying28 w.heap.size 1 #[⟨.int .i64 1, wcloA (w.heap.size + 1), 0⟩] rfl m2.out 2 rfl _ rfl (by simp) ?_; intro w2 h2 k2)
  have G1 := Lib.hid (A1.out.grown k2 (by simp <;> omega))
  have G2 := Lib.hid (A2.out.grown k2 (by simp <;> omega))
  have H2 := Lib.hid h2
  have b2 : Below w.heap.size w w2 := (b1.alloc b1.size (.cells #[.string (⟨#[110, 111, 116, 32]⟩ : ByteArray)] 9)).grown k2 (by simp <;> omega) (fun k e => by cases e; exact Nat.le_refl _)
  have n2 : w.heap.size + 2 ≤ w2.heap.size := by have := k2.size; simp at this; omega
  clear h2 k2 m2 A1 A2 b1
  refine (ruCondition_any _ _).mono ?_
  rintro e w0 ⟨rfl, rfl⟩
  have m3 := Lib.hid ((Below.heap_alloc w2 (.cells #[.string (⟨#[61]⟩ : ByteArray)] 9) w.heap.size (by omega)).trans H2.out)
  have A1 := Lib.hid (G1.out.alloc (.cells #[.string (⟨#[61]⟩ : ByteArray)] 9))
  have A2 := Lib.hid (G2.out.alloc (.cells #[.string (⟨#[61]⟩ : ByteArray)] 9))
  have A3 := Lib.hid (holdsS_new w2 ⟨#[61]⟩)
  clear H2 G1 G2
  go_wp2_with (refine wpList_insert_int _ rfl (.tmp 3) (.const (.int .i64 3)) (.tmp 9) 123 rfl 28 125 .i64 Tryz.underlying123 Tryz.underlying28 w.heap.size 2 #[⟨.int .i64 1, wcloA (w.heap.size + 1), 0⟩, ⟨.int .i64 2, wcloA w1.heap.size, 1⟩] rfl m3.out 3 rfl _ rfl (by simp) ?_; intro w3 h3 k3)
  have G1 := Lib.hid (A1.out.grown k3 (by simp <;> omega))
  have G2 := Lib.hid (A2.out.grown k3 (by simp <;> omega))
  have G3 := Lib.hid (A3.out.grown k3 (by simp <;> omega))
  have H3 := Lib.hid h3
  have b3 : Below w.heap.size w w3 := (b2.alloc b2.size (.cells #[.string (⟨#[61]⟩ : ByteArray)] 9)).grown k3 (by simp <;> omega) (fun k e => by cases e; exact Nat.le_refl _)
  have n3 : w.heap.size + 2 ≤ w3.heap.size := by have := k3.size; simp at this; omega
  clear h3 k3 m3 A1 A2 A3 b2
  refine (ruCondition_any _ _).mono ?_
  rintro e w0 ⟨rfl, rfl⟩
  have m4 := Lib.hid ((Below.heap_alloc w3 (.cells #[.string (⟨#[33, 61]⟩ : ByteArray)] 9) w.heap.size (by omega)).trans H3.out)
  have A1 := Lib.hid (G1.out.alloc (.cells #[.string (⟨#[33, 61]⟩ : ByteArray)] 9))
  have A2 := Lib.hid (G2.out.alloc (.cells #[.string (⟨#[33, 61]⟩ : ByteArray)] 9))
  have A3 := Lib.hid (G3.out.alloc (.cells #[.string (⟨#[33, 61]⟩ : ByteArray)] 9))
  have A4 := Lib.hid (holdsS_new w3 ⟨#[33, 61]⟩)
  clear H3 G1 G2 G3
  go_wp2_with (refine wpList_insert_int _ rfl (.tmp 3) (.const (.int .i64 4)) (.tmp 11) 123 rfl 28 125 .i64 Tryz.underlying123 Tryz.underlying28 w.heap.size 3 #[⟨.int .i64 1, wcloA (w.heap.size + 1), 0⟩, ⟨.int .i64 2, wcloA w1.heap.size, 1⟩, ⟨.int .i64 3, wcloB w2.heap.size, 2⟩] rfl m4.out 4 rfl _ rfl (by simp) ?_; intro w4 h4 k4)
  have G1 := Lib.hid (A1.out.grown k4 (by simp <;> omega))
  have G2 := Lib.hid (A2.out.grown k4 (by simp <;> omega))
  have G3 := Lib.hid (A3.out.grown k4 (by simp <;> omega))
  have G4 := Lib.hid (A4.out.grown k4 (by simp <;> omega))
  have H4 := Lib.hid h4
  have b4 : Below w.heap.size w w4 := (b3.alloc b3.size (.cells #[.string (⟨#[33, 61]⟩ : ByteArray)] 9)).grown k4 (by simp <;> omega) (fun k e => by cases e; exact Nat.le_refl _)
  have n4 : w.heap.size + 2 ≤ w4.heap.size := by have := k4.size; simp at this; omega
  clear h4 k4 m4 A1 A2 A3 A4 b3
  go_ret
  exact ⟨w.heap.size, w.heap.size + 1, _, _, _, rfl, ⟨H4.out, G1.out, G2.out, G3.out, G4.out⟩, b4, Nat.le_refl _, Nat.le_succ _, by omega, by omega, by omega⟩

theorem run_look_only {P : Program} (w : World) {t k e : TypeId} {q : IntKind} (ht : P.underlying t = some (.map k e)) (hk : P.underlying k = some (.int q)) {b clock : Nat} {es : Array MapEntry} (hb : w.heap[b]? = some (.map es clock)) (i : Int) (m : Nat) (v : Value)
    (hf : Instr.findNow (.int q) (.int q i) es.toList 0 = some (some (m, v))) :
    (Instr.lookup t (.map (some b)) (.int q i) false).run P w = .ok v w := by
  have hc : ∀ em, (Instr.checkKey em 10000 k (.int q i)).run P w = .ok () w := fun em => MapKept.run_checkKey hk (isKey_int q i) em 9999
  simp [Instr.lookup, run_underlying ht, MapKept.run_getObj_map hb, hc, MapKept.run_findKey hk hf, Result.andThen]
theorem lookW_1 {w : World} {b c1 c2 c3 c4 : Nat} (h : w.heap[b]? = some (.map (entriesW c1 c2 c3 c4) 4)) : (Instr.lookup 123 (.map (some b)) (.int .i64 1) false).run Tryz.prog w = .ok (wcloA c1) w :=
  run_look_only w Tryz.underlying123 Tryz.underlying28 h 1 0 _ rfl
theorem lookW_2 {w : World} {b c1 c2 c3 c4 : Nat} (h : w.heap[b]? = some (.map (entriesW c1 c2 c3 c4) 4)) : (Instr.lookup 123 (.map (some b)) (.int .i64 2) false).run Tryz.prog w = .ok (wcloA c2) w :=
  run_look_only w Tryz.underlying123 Tryz.underlying28 h 2 1 _ rfl
theorem lookW_3 {w : World} {b c1 c2 c3 c4 : Nat} (h : w.heap[b]? = some (.map (entriesW c1 c2 c3 c4) 4)) : (Instr.lookup 123 (.map (some b)) (.int .i64 3) false).run Tryz.prog w = .ok (wcloB c3) w :=
  run_look_only w Tryz.underlying123 Tryz.underlying28 h 3 2 _ rfl
theorem lookW_4 {w : World} {b c1 c2 c3 c4 : Nat} (h : w.heap[b]? = some (.map (entriesW c1 c2 c3 c4) 4)) : (Instr.lookup 123 (.map (some b)) (.int .i64 4) false).run Tryz.prog w = .ok (wcloB c4) w :=
  run_look_only w Tryz.underlying123 Tryz.underlying28 h 4 3 _ rfl
end Go.Proofs.YtbcoklbfebmpoaaGreatDoor

