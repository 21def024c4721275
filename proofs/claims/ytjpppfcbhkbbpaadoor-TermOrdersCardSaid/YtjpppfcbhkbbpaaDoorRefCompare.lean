/-
  CONTRACTS OF THE REFERENCE's texts, Compare, Less, CompareTriples. Written by tools/genrefcompare.py.
-/
import Derived.Test.YtjpppfcbhkbbpaaDoorCompare
import Derived.Laws.Cover1
namespace Go.Proofs.YtjpppfcbhkbbpaaDoor
open Go.RowKit
open Utf Term
set_option linter.unusedVariables false
set_option linter.unusedSimpArgs false

theorem less_lt {t t' : ByteArray} (h : cmpB t t' = -1) : Op.bytesLess t.toList t'.toList = true := by
  rw [ByteArray.toList_eq, ByteArray.toList_eq, less_cmp]
  unfold cmpB at h
  rw [h]; rfl
theorem less_gt {t t' : ByteArray} (h : cmpB t t' = 1) : Op.bytesLess t.toList t'.toList = false ∧ (t.toList == t'.toList) = false := by
  constructor
  · rw [ByteArray.toList_eq, ByteArray.toList_eq, less_cmp]
    unfold cmpB at h
    rw [h]; rfl
  · rw [Bool.eq_false_iff]
    intro e
    rw [beq_iff_eq, ByteArray.toList_eq, ByteArray.toList_eq] at e
    unfold cmpB at h
    rw [e, (list_zero _ _).2 rfl] at h
    cases h
theorem less_self (t : ByteArray) : Op.bytesLess t.toList t.toList = false := by
  rw [ByteArray.toList_eq, less_cmp, (list_zero _ _).2 rfl]; rfl

set_option maxRecDepth 100000 in
theorem refTexts_any (t t' : ByteArray) (w : World) :
    Calls Tryd.prog 39 #[.string t, .string t'] w fun e w' => e = .returned (.int .i64 (cmpB t t')) ∧ w = w' := by
  rcases ord_text.range t t' with h | h | h
  · have e1 := less_lt h
    rw [h]
    clear h
    go_enter Tryd.func39, Tryd.ntmps39
    go_wp2
    go_ret
    exact ⟨rfl, rfl⟩
  · rw [h]
    obtain rfl := ord_text.of_eq h
    have e1 := less_self t
    clear h
    go_enter Tryd.func39, Tryd.ntmps39
    go_wp2
    go_ret
    exact ⟨rfl, rfl⟩
  · obtain ⟨e1, e2⟩ := less_gt h
    rw [h]
    clear h
    go_enter Tryd.func39, Tryd.ntmps39
    go_wp2
    go_ret
    exact ⟨rfl, rfl⟩

set_option maxRecDepth 100000 in
set_option maxHeartbeats 1000000 in
theorem refCompare_any (a b : TermD) (w : World) :
    Calls Tryd.prog 12 #[termD a, termD b] w fun e w' => e = .returned (.int .i64 (cmpD a b)) ∧ Below w.heap.size w w' := by
  obtain ⟨k, t, x⟩ := a
  obtain ⟨k', t', x'⟩ := b
  have HB : Hid (Below w.heap.size w ((w.alloc (.cells #[.int .i64 k, .string t, .string x] 24)).alloc (.cells #[.int .i64 k', .string t', .string x'] 24))) := Lib.hid (below_step (below_new _ _) (below_new _ _))
  by_cases hk : k = k'
  · subst hk
    have HR := Lib.hid (cmpD_same k t x t' x')
    have MT := fun W => refTexts_any t t' W
    have MX := fun W => refTexts_any x x' W
    have hr := ord_text.range t t'
    generalize cmpD (k, t, x) (k, t', x') = R at *
    generalize cmpB x x' = Nx at *
    generalize cmpB t t' = Nt at *
    rcases hr with rfl | rfl | rfl
    · go_enter Tryd.func12, Tryd.ntmps12
      go_wp2_with fail
      refine (MT _).mono ?_
      rintro e w2 ⟨rfl, rfl⟩
      go_wp2_with fail
      go_ret
      exact ⟨by rw [HR.out] <;> rfl, HB.out⟩
    · go_enter Tryd.func12, Tryd.ntmps12
      go_wp2_with fail
      refine (MT _).mono ?_
      rintro e w2 ⟨rfl, rfl⟩
      go_wp2_with fail
      refine (MX _).mono ?_
      rintro e w2 ⟨rfl, rfl⟩
      go_wp2_with fail
      go_ret
      exact ⟨by rw [HR.out] <;> rfl, HB.out⟩
    · go_enter Tryd.func12, Tryd.ntmps12
      go_wp2_with fail
      refine (MT _).mono ?_
      rintro e w2 ⟨rfl, rfl⟩
      go_wp2_with fail
      go_ret
      exact ⟨by rw [HR.out] <;> rfl, HB.out⟩
  · have HR := Lib.hid (cmpD_kind hk t x t' x')
    generalize cmpD (k, t, x) (k', t', x') = R at *
    by_cases h1 : k < k'
    · have HI : Hid (cmpI k k' = -1) := Lib.hid (by unfold cmpI; rw [if_pos h1])
      have e1 : decide (k < k') = true := by simpa using h1
      clear h1 hk
      go_enter Tryd.func12, Tryd.ntmps12
      go_wp2
      go_ret
      exact ⟨by rw [HR.out, HI.out] <;> rfl, HB.out⟩
    · have h2 : k' < k := by omega
      have HI : Hid (cmpI k k' = 1) := Lib.hid (by unfold cmpI; rw [if_neg h1, if_pos h2])
      have e1 : decide (k < k') = false := by simpa using h1
      have e2 : decide (k' < k) = true := by simpa using h2
      clear h1 h2 hk
      go_enter Tryd.func12, Tryd.ntmps12
      go_wp2
      go_ret
      exact ⟨by rw [HR.out, HI.out] <;> rfl, HB.out⟩

set_option maxRecDepth 100000 in
theorem refLess_any (a b : TermD) (w : World) :
    Calls Tryd.prog 14 #[termD a, termD b] w fun e w' => e = .returned (.bool (decide (cmpD a b < 0))) ∧ Below w.heap.size w w' := by
  have HB : Hid (Below w.heap.size w ((w.alloc (.cells #[.int .i64 a.1, .string a.2.1, .string a.2.2] 24)).alloc (.cells #[.int .i64 b.1, .string b.2.1, .string b.2.2] 24))) := Lib.hid (below_step (below_new _ _) (below_new _ _))
  have MC := fun W => refCompare_any a b W
  generalize cmpD a b = N at *
  go_enter Tryd.func14, Tryd.ntmps14
  go_wp2_with fail
  refine (MC _).mono ?_
  rintro e w2 ⟨rfl, hB2⟩
  go_wp2_with fail
  go_ret
  exact ⟨rfl, below_step HB.out hB2⟩


set_option maxRecDepth 100000 in
set_option maxHeartbeats 4000000 in
theorem refCompareTriples_any (a0 a1 a2 b0 b1 b2 : TermD) (w : World) :
    Calls Tryd.prog 16 #[tripleV a0 a1 a2, tripleV b0 b1 b2] w fun e w' => e = .returned (.int .i64 (cmpT (a0, a1, a2) (b0, b1, b2))) ∧ Below w.heap.size w w' := by
  have M0 := fun W => refCompare_any a0 b0 W
  have M1 := fun W => refCompare_any a1 b1 W
  have M2 := fun W => refCompare_any a2 b2 W
  have HR : Hid (cmpT (a0, a1, a2) (b0, b1, b2) = if cmpD a0 b0 = 0 then (if cmpD a1 b1 = 0 then cmpD a2 b2 else cmpD a1 b1) else cmpD a0 b0) := Lib.hid rfl
  have r0 := Lib.hid (ord_term.range a0 b0)
  have r1 := Lib.hid (ord_term.range a1 b1)
  have r2 := Lib.hid (ord_term.range a2 b2)
  have HS := Lib.hid (box2_start w a0 a1 a2 b0 b1 b2)
  generalize cmpT (a0, a1, a2) (b0, b1, b2) = R at *
  generalize cmpD a0 b0 = n0 at *
  generalize cmpD a1 b1 = n1 at *
  generalize cmpD a2 b2 = n2 at *
  go_enter Tryd.func16, Tryd.ntmps16
  go_wp2
  refine wp_loop_rounds 4 ?_
  rw [rounds_succ]
  go_wp2_with fail
  have D0 := Lib.hid (box2_drew HS.out)
  clear HS
  go_region_held3 (fun W' => W'.cell? ⟨w.heap.size, 0, none⟩ = some (.int .i64 a0.1) ∧ W'.cell? ⟨w.heap.size, 1, none⟩ = some (.string a0.2.1) ∧ W'.cell? ⟨w.heap.size, 2, none⟩ = some (.string a0.2.2) ∧ W'.cell? ⟨w.heap.size, 3, none⟩ = some (.int .i64 a1.1) ∧ W'.cell? ⟨w.heap.size, 4, none⟩ = some (.string a1.2.1) ∧ W'.cell? ⟨w.heap.size, 5, none⟩ = some (.string a1.2.2) ∧ W'.cell? ⟨w.heap.size, 6, none⟩ = some (.int .i64 a2.1) ∧ W'.cell? ⟨w.heap.size, 7, none⟩ = some (.string a2.2.1) ∧ W'.cell? ⟨w.heap.size, 8, none⟩ = some (.string a2.2.2) ∧ W'.cell? ⟨w.heap.size + 1, 0, none⟩ = some (.int .i64 b0.1) ∧ W'.cell? ⟨w.heap.size + 1, 1, none⟩ = some (.string b0.2.1) ∧ W'.cell? ⟨w.heap.size + 1, 2, none⟩ = some (.string b0.2.2) ∧ W'.cell? ⟨w.heap.size + 1, 3, none⟩ = some (.int .i64 b1.1) ∧ W'.cell? ⟨w.heap.size + 1, 4, none⟩ = some (.string b1.2.1) ∧ W'.cell? ⟨w.heap.size + 1, 5, none⟩ = some (.string b1.2.2) ∧ W'.cell? ⟨w.heap.size + 1, 6, none⟩ = some (.int .i64 b2.1) ∧ W'.cell? ⟨w.heap.size + 1, 7, none⟩ = some (.string b2.2.1) ∧ W'.cell? ⟨w.heap.size + 1, 8, none⟩ = some (.string b2.2.2) ∧ Below w.heap.size w W') ((first | assumption | exact D0.out | exact box2_step (by assumption) (by assumption))) ((go_at_call 12; refine (M0 _).mono ?_; rintro e y0 ⟨rfl, hY0⟩))
  rename_i hHeld
  have H0 := Lib.hid hHeld
  clear hHeld D0
  rcases r0.out with rfl | rfl | rfl
  · go_wp2_with fail
    go_ret
    exact ⟨by rw [HR.out] <;> rfl, box2_below H0.out⟩
  rotate_left
  · go_wp2_with fail
    go_ret
    exact ⟨by rw [HR.out] <;> rfl, box2_below H0.out⟩
  go_wp2_with fail
  rw [rounds_succ]
  go_wp2_with fail
  have D1 := Lib.hid (box2_drew H0.out)
  clear H0
  go_region_held3 (fun W' => W'.cell? ⟨w.heap.size, 0, none⟩ = some (.int .i64 a0.1) ∧ W'.cell? ⟨w.heap.size, 1, none⟩ = some (.string a0.2.1) ∧ W'.cell? ⟨w.heap.size, 2, none⟩ = some (.string a0.2.2) ∧ W'.cell? ⟨w.heap.size, 3, none⟩ = some (.int .i64 a1.1) ∧ W'.cell? ⟨w.heap.size, 4, none⟩ = some (.string a1.2.1) ∧ W'.cell? ⟨w.heap.size, 5, none⟩ = some (.string a1.2.2) ∧ W'.cell? ⟨w.heap.size, 6, none⟩ = some (.int .i64 a2.1) ∧ W'.cell? ⟨w.heap.size, 7, none⟩ = some (.string a2.2.1) ∧ W'.cell? ⟨w.heap.size, 8, none⟩ = some (.string a2.2.2) ∧ W'.cell? ⟨w.heap.size + 1, 0, none⟩ = some (.int .i64 b0.1) ∧ W'.cell? ⟨w.heap.size + 1, 1, none⟩ = some (.string b0.2.1) ∧ W'.cell? ⟨w.heap.size + 1, 2, none⟩ = some (.string b0.2.2) ∧ W'.cell? ⟨w.heap.size + 1, 3, none⟩ = some (.int .i64 b1.1) ∧ W'.cell? ⟨w.heap.size + 1, 4, none⟩ = some (.string b1.2.1) ∧ W'.cell? ⟨w.heap.size + 1, 5, none⟩ = some (.string b1.2.2) ∧ W'.cell? ⟨w.heap.size + 1, 6, none⟩ = some (.int .i64 b2.1) ∧ W'.cell? ⟨w.heap.size + 1, 7, none⟩ = some (.string b2.2.1) ∧ W'.cell? ⟨w.heap.size + 1, 8, none⟩ = some (.string b2.2.2) ∧ Below w.heap.size w W') ((first | assumption | exact D1.out | exact box2_step (by assumption) (by assumption))) ((go_at_call 12; refine (M1 _).mono ?_; rintro e y1 ⟨rfl, hY1⟩))
  rename_i hHeld
  have H1 := Lib.hid hHeld
  clear hHeld D1
  rcases r1.out with rfl | rfl | rfl
  · go_wp2_with fail
    go_ret
    exact ⟨by rw [HR.out] <;> rfl, box2_below H1.out⟩
  rotate_left
  · go_wp2_with fail
    go_ret
    exact ⟨by rw [HR.out] <;> rfl, box2_below H1.out⟩
  go_wp2_with fail
  rw [rounds_succ]
  go_wp2_with fail
  have D2 := Lib.hid (box2_drew H1.out)
  clear H1
  go_region_held3 (fun W' => W'.cell? ⟨w.heap.size, 0, none⟩ = some (.int .i64 a0.1) ∧ W'.cell? ⟨w.heap.size, 1, none⟩ = some (.string a0.2.1) ∧ W'.cell? ⟨w.heap.size, 2, none⟩ = some (.string a0.2.2) ∧ W'.cell? ⟨w.heap.size, 3, none⟩ = some (.int .i64 a1.1) ∧ W'.cell? ⟨w.heap.size, 4, none⟩ = some (.string a1.2.1) ∧ W'.cell? ⟨w.heap.size, 5, none⟩ = some (.string a1.2.2) ∧ W'.cell? ⟨w.heap.size, 6, none⟩ = some (.int .i64 a2.1) ∧ W'.cell? ⟨w.heap.size, 7, none⟩ = some (.string a2.2.1) ∧ W'.cell? ⟨w.heap.size, 8, none⟩ = some (.string a2.2.2) ∧ W'.cell? ⟨w.heap.size + 1, 0, none⟩ = some (.int .i64 b0.1) ∧ W'.cell? ⟨w.heap.size + 1, 1, none⟩ = some (.string b0.2.1) ∧ W'.cell? ⟨w.heap.size + 1, 2, none⟩ = some (.string b0.2.2) ∧ W'.cell? ⟨w.heap.size + 1, 3, none⟩ = some (.int .i64 b1.1) ∧ W'.cell? ⟨w.heap.size + 1, 4, none⟩ = some (.string b1.2.1) ∧ W'.cell? ⟨w.heap.size + 1, 5, none⟩ = some (.string b1.2.2) ∧ W'.cell? ⟨w.heap.size + 1, 6, none⟩ = some (.int .i64 b2.1) ∧ W'.cell? ⟨w.heap.size + 1, 7, none⟩ = some (.string b2.2.1) ∧ W'.cell? ⟨w.heap.size + 1, 8, none⟩ = some (.string b2.2.2) ∧ Below w.heap.size w W') ((first | assumption | exact D2.out | exact box2_step (by assumption) (by assumption))) ((go_at_call 12; refine (M2 _).mono ?_; rintro e y2 ⟨rfl, hY2⟩))
  rename_i hHeld
  have H2 := Lib.hid hHeld
  clear hHeld D2
  rcases r2.out with rfl | rfl | rfl
  · go_wp2_with fail
    go_ret
    exact ⟨by rw [HR.out] <;> rfl, box2_below H2.out⟩
  rotate_left
  · go_wp2_with fail
    go_ret
    exact ⟨by rw [HR.out] <;> rfl, box2_below H2.out⟩
  go_wp2_with fail
  rw [rounds_succ]
  go_wp2_with fail
  go_ret
  exact ⟨by rw [HR.out] <;> rfl, box2_below H2.out⟩
end Go.Proofs.YtjpppfcbhkbbpaaDoor
