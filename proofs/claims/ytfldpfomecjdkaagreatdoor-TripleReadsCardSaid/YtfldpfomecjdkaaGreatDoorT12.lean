/-
  WHAT THE PROOF STANDS ON, a part of it: MayAdd.
-/
import Derived.Test.YtfldpfomecjdkaaGreatDoorT10
import Derived.Test.YtfldpfomecjdkaaGreatDoorT11
import Derived.Deep.RegionHeld3
/-
  CONTRACTS OF MayAdd, AND OF THE REFERENCE's MayFollow, MayAdd, TripleText, Long.
-/

namespace Go.Proofs.YtfldpfomecjdkaaGreatDoor
open Go.RowKit
open Utf Term
set_option linter.unusedVariables false
set_option linter.unusedSimpArgs false

def followD (a b c : TermD) : Bool := mayD a && mayD b && mayD c
/-- May it be added? -/
def addD (a b c : TermD) : Bool := (decide (a.1 = 1) || decide (a.1 = 2)) && decide (b.1 = 1) && followD a b c
def Short (a : TermD) : Prop := a.2.1.size ≤ 40000 ∧ a.2.2.size ≤ 40000
theorem Short.fits {a : TermD} (h : Short a) : Fits a := ⟨by have := h.1; omega, by have := h.2; omega⟩

set_option maxRecDepth 100000 in
set_option maxHeartbeats 1000000 in
theorem mayAdd_vast (a b c : TermD) (ha : Vast a) (hb : Vast b) (hc : Vast c) (m : Int) (w : World) (hm : w.cell? ⟨1, 0, none⟩ = some (.int .i64 m)) :
    Calls Tryz.prog 39 #[tripleV a b c] w fun e w' => e = .returned (.bool (addD a b c)) ∧ Below w.heap.size w w' := by
  have HM := Lib.hid hm
  have MF := mayFollow_vast a b c ha hb hc m
  have hf : (mayD a && mayD b && mayD c) = followD a b c := rfl
  rw [hf] at MF
  clear hf
  have HB := Lib.hid (below_new w (.cells #[.int .i64 a.1, .string a.2.1, .string a.2.2, .int .i64 b.1, .string b.2.1, .string b.2.2, .int .i64 c.1, .string c.2.1, .string c.2.2] 51))
  clear hm
  have HA : Hid (addD a b c = ((decide (a.1 = 1) || decide (a.1 = 2)) && decide (b.1 = 1) && followD a b c)) := Lib.hid rfl
  generalize addD a b c = AD at *
  generalize followD a b c = FD at *
  by_cases h1 : a.1 = 1
  · have e1 : (a.1 == 1) = true := by simpa using h1
    by_cases h3 : b.1 = 1
    · have e3 : (b.1 == 1) = true := by simpa using h3
      have HR : Hid (AD = FD) := Lib.hid (by rw [HA.out]; simp [h1, h3])
      clear h1 h3
      go_enter Tryz.func39, Tryz.ntmps39
      go_wp2_with fail
      refine (MF _ (cell_below HB.out HM.out)).mono ?_
      rintro e w2 ⟨rfl, hB2⟩
      go_wp2
      go_ret
      exact ⟨ret_bool HR.out.symm, below_step HB.out hB2⟩
    · have e3 : (b.1 == 1) = false := by simpa using h3
      have HR : Hid (AD = false) := Lib.hid (by rw [HA.out]; simp [h3])
      clear h1 h3
      go_enter Tryz.func39, Tryz.ntmps39
      go_wp2_with fail
      go_ret
      exact ⟨ret_bool HR.out.symm, HB.out⟩
  · have e1 : (a.1 == 1) = false := by simpa using h1
    by_cases h2 : a.1 = 2
    · have e2 : (a.1 == 2) = true := by simpa using h2
      by_cases h3 : b.1 = 1
      · have e3 : (b.1 == 1) = true := by simpa using h3
        have HR : Hid (AD = FD) := Lib.hid (by rw [HA.out]; simp [h2, h3])
        clear h1 h2 h3
        go_enter Tryz.func39, Tryz.ntmps39
        go_wp2_with fail
        refine (MF _ (cell_below HB.out HM.out)).mono ?_
        rintro e w2 ⟨rfl, hB2⟩
        go_wp2
        go_ret
        exact ⟨ret_bool HR.out.symm, below_step HB.out hB2⟩
      · have e3 : (b.1 == 1) = false := by simpa using h3
        have HR : Hid (AD = false) := Lib.hid (by rw [HA.out]; simp [h3])
        clear h1 h2 h3
        go_enter Tryz.func39, Tryz.ntmps39
        go_wp2_with fail
        go_ret
        exact ⟨ret_bool HR.out.symm, HB.out⟩
    · have e2 : (a.1 == 2) = false := by simpa using h2
      have HR : Hid (AD = false) := Lib.hid (by rw [HA.out]; simp [h1, h2])
      clear h1 h2
      go_enter Tryz.func39, Tryz.ntmps39
      go_wp2_with fail
      go_ret
      exact ⟨ret_bool HR.out.symm, HB.out⟩

theorem refmayD_any {a : TermD} {v : Bool} (hf : Short a) (hv : mayD a = v) (W : World) :
    Calls Tryz.prog 31 #[termD a] W fun e w' => e = .returned (.bool v) ∧ Below W.heap.size W w' := by
  rw [← hv]; exact refmay_any a.1 a.2.1 a.2.2 hf.1 hf.2 W

/-- The triple's own box reads as it did. -/
theorem box9 {w w2 : World} {a b c : TermD} (hB : Below (w.alloc (.cells #[.int .i64 a.1, .string a.2.1, .string a.2.2, .int .i64 b.1, .string b.2.1, .string b.2.2, .int .i64 c.1, .string c.2.1, .string c.2.2] 51)).heap.size (w.alloc (.cells #[.int .i64 a.1, .string a.2.1, .string a.2.2, .int .i64 b.1, .string b.2.1, .string b.2.2, .int .i64 c.1, .string c.2.1, .string c.2.2] 51)) w2) :
    w2.cell? ⟨w.heap.size, 0, none⟩ = some (.int .i64 a.1) ∧ w2.cell? ⟨w.heap.size, 1, none⟩ = some (.string a.2.1) ∧ w2.cell? ⟨w.heap.size, 2, none⟩ = some (.string a.2.2) ∧
    w2.cell? ⟨w.heap.size, 3, none⟩ = some (.int .i64 b.1) ∧ w2.cell? ⟨w.heap.size, 4, none⟩ = some (.string b.2.1) ∧ w2.cell? ⟨w.heap.size, 5, none⟩ = some (.string b.2.2) ∧
    w2.cell? ⟨w.heap.size, 6, none⟩ = some (.int .i64 c.1) ∧ w2.cell? ⟨w.heap.size, 7, none⟩ = some (.string c.2.1) ∧ w2.cell? ⟨w.heap.size, 8, none⟩ = some (.string c.2.2) := by
  have h : ∀ o v, (w.alloc (.cells #[.int .i64 a.1, .string a.2.1, .string a.2.2, .int .i64 b.1, .string b.2.1, .string b.2.2, .int .i64 c.1, .string c.2.1, .string c.2.2] 51)).cell? ⟨w.heap.size, o, none⟩ = v → w2.cell? ⟨w.heap.size, o, none⟩ = v := fun o v e =>
    (hB.cell (p := ⟨w.heap.size, o, none⟩) (by simp)).trans e
  refine ⟨h 0 _ ?_, h 1 _ ?_, h 2 _ ?_, h 3 _ ?_, h 4 _ ?_, h 5 _ ?_, h 6 _ ?_, h 7 _ ?_, h 8 _ ?_⟩
  all_goals
    rw [World.cell?_alloc_at _ _ _ _ rfl]
    rfl

set_option maxRecDepth 100000 in
set_option maxHeartbeats 2000000 in
theorem refFollow_any (a b c : TermD) (ha : Short a) (hb : Short b) (hc : Short c) (w : World) :
    Calls Tryz.prog 65 #[tripleV a b c] w fun e w' => e = .returned (.bool (followD a b c)) ∧ Below w.heap.size w w' := by
  have MA := fun v h => refmayD_any (v := v) ha h
  have MB := fun v h => refmayD_any (v := v) hb h
  have MC := fun v h => refmayD_any (v := v) hc h
  have HA : Hid (followD a b c = (mayD a && mayD b && mayD c)) := Lib.hid rfl
  have HB := Lib.hid (below_new w (.cells #[.int .i64 a.1, .string a.2.1, .string a.2.2, .int .i64 b.1, .string b.2.1, .string b.2.2, .int .i64 c.1, .string c.2.1, .string c.2.2] 51))
  generalize followD a b c = FD at *
  generalize mayD a = va at *
  generalize mayD b = vb at *
  generalize mayD c = vc at *
  go_enter Tryz.func65, Tryz.ntmps65
  go_wp2_with fail
  refine (MA va rfl _).mono ?_
  rintro e w1 ⟨rfl, hB1⟩
  cases va with
  | false =>
    go_wp2_with fail
    go_ret
    exact ⟨ret_bool (by rw [HA.out]; rfl), below_step HB.out hB1⟩
  | true =>
    obtain ⟨_, _, _, q3, q4, q5, _, _, _⟩ := box9 hB1
    go_wp2_with fail
    refine (MB vb rfl _).mono ?_
    rintro e w2 ⟨rfl, hB2⟩
    cases vb with
    | false =>
      go_wp2_with fail
      go_ret
      exact ⟨ret_bool (by rw [HA.out]; rfl), below_step (below_step HB.out hB1) hB2⟩
    | true =>
      obtain ⟨_, _, _, _, _, _, q6, q7, q8⟩ := box9 (below_step hB1 hB2)
      clear q3 q4 q5
      go_wp2_with fail
      refine (MC vc rfl _).mono ?_
      rintro e w3 ⟨rfl, hB3⟩
      go_wp2_with fail
      go_ret
      exact ⟨ret_bool (by rw [HA.out]; cases vc <;> rfl), below_step (below_step (below_step HB.out hB1) hB2) hB3⟩

theorem kind_of_may {a : TermD} (h : mayD a = true) : 1 ≤ a.1 ∧ a.1 ≤ 5 := by
  by_cases h1 : 1 ≤ a.1 ∧ a.1 ≤ 5
  · exact h1
  · unfold mayD mayS at h
    rw [if_neg (by omega), if_neg (by omega), if_neg (by omega), if_neg (by omega), if_neg (by omega)] at h
    cases h

set_option maxRecDepth 100000 in
set_option maxHeartbeats 2000000 in
theorem refAdd_any (a b c : TermD) (ha : Short a) (hb : Short b) (hc : Short c) (w : World) :
    Calls Tryz.prog 38 #[tripleV a b c] w fun e w' => e = .returned (.bool (addD a b c)) ∧ Below w.heap.size w w' := by
  have MF := refFollow_any a b c ha hb hc
  have HB := Lib.hid (below_new w (.cells #[.int .i64 a.1, .string a.2.1, .string a.2.2, .int .i64 b.1, .string b.2.1, .string b.2.2, .int .i64 c.1, .string c.2.1, .string c.2.2] 51))
  cases hf : followD a b c with
  | false =>
    rw [hf] at MF
    have HR : Hid (addD a b c = false) := Lib.hid (by unfold addD; rw [hf, Bool.and_false])
    generalize addD a b c = AD at *
    clear hf
    go_enter Tryz.func38, Tryz.ntmps38
    go_wp2_with fail
    refine (MF _).mono ?_
    rintro e w1 ⟨rfl, hB1⟩
    go_wp2_with fail
    go_ret
    exact ⟨ret_bool HR.out.symm, below_step HB.out hB1⟩
  | true =>
    rw [hf] at MF
    have hka : 1 ≤ a.1 ∧ a.1 ≤ 5 := kind_of_may (by unfold followD at hf; simp only [Bool.and_eq_true] at hf; exact hf.1.1)
    by_cases h2 : a.1 ≤ 2
    · have d2 : decide (a.1 ≤ 2) = true := by simpa using h2
      have HR : Hid (addD a b c = (b.1 == 1)) := Lib.hid (by
        unfold addD; rw [hf, Bool.and_true]
        have : (decide (a.1 = 1) || decide (a.1 = 2)) = true := by simp; omega
        rw [this, Bool.true_and]
        rfl)
      generalize addD a b c = AD at *
      clear hf hka h2
      go_enter Tryz.func38, Tryz.ntmps38
      go_wp2_with fail
      refine (MF _).mono ?_
      rintro e w1 ⟨rfl, hB1⟩
      obtain ⟨q0, _, _, q3, _, _, _, _, _⟩ := box9 hB1
      go_wp2_with fail
      all_goals
        go_ret
        exact ⟨ret_bool (by rw [HR.out]), below_step HB.out hB1⟩
    · have d2 : decide (a.1 ≤ 2) = false := by simpa using h2
      have HR : Hid (addD a b c = false) := Lib.hid (by
        unfold addD
        have : (decide (a.1 = 1) || decide (a.1 = 2)) = false := by simp; omega
        rw [this]; rfl)
      generalize addD a b c = AD at *
      clear hf hka h2
      go_enter Tryz.func38, Tryz.ntmps38
      go_wp2_with fail
      refine (MF _).mono ?_
      rintro e w1 ⟨rfl, hB1⟩
      obtain ⟨q0, _, _, q3, _, _, _, _, _⟩ := box9 hB1
      go_wp2_with fail
      go_ret
      exact ⟨ret_bool HR.out.symm, below_step HB.out hB1⟩
theorem mayAdd_any (a b c : TermD) (ha : Fits a) (hb : Fits b) (hc : Fits c) (m : Int) (w : World) (hm : w.cell? ⟨1, 0, none⟩ = some (.int .i64 m)) :
    Calls Tryz.prog 39 #[tripleV a b c] w fun e w' => e = .returned (.bool (addD a b c)) ∧ Below w.heap.size w w' := mayAdd_vast a b c ha.vast hb.vast hc.vast m w hm

end Go.Proofs.YtfldpfomecjdkaaGreatDoor
