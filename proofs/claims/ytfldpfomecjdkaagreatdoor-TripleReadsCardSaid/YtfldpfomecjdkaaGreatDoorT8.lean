/-
  WHAT THE PROOF STANDS ON, a part of it: Much.
-/
import Derived.Test.YtfldpfomecjdkaaGreatDoorT7
import Derived.IntWalk
/-
  CONTRACT OF Much.
-/

namespace Go.Proofs.YtfldpfomecjdkaaGreatDoor
open Go.RowKit
open Utf Term
set_option linter.unusedVariables false
set_option linter.unusedSimpArgs false

/-- Terms in a row. -/
def RowT (W : World) (b off : Nat) (ts : List TermD) : Prop := ∀ p q, ts[p]? = some q → W.cell? ⟨b, off + p * 3, none⟩ = some (.int .i64 q.1) ∧ W.cell? ⟨b, off + p * 3 + 1, none⟩ = some (.string q.2.1) ∧ W.cell? ⟨b, off + p * 3 + 2, none⟩ = some (.string q.2.2)
theorem RowT.at0 {W : World} {b off k : Nat} {ts : List TermD} {q : TermD} (h : RowT W b off ts) (e : ts[k * 3]? = some q) : W.cell? ⟨b, off + k * 9 + 1, none⟩ = some (.string q.2.1) ∧ W.cell? ⟨b, off + k * 9 + 2, none⟩ = some (.string q.2.2) := by
  have h1 := h _ _ e
  have e1 : off + k * 3 * 3 = off + k * 9 := by omega
  rw [e1] at h1
  exact ⟨h1.2.1, h1.2.2⟩
theorem RowT.at1 {W : World} {b off k : Nat} {ts : List TermD} {q : TermD} (h : RowT W b off ts) (e : ts[k * 3 + 1]? = some q) : W.cell? ⟨b, off + k * 9 + 3 + 1, none⟩ = some (.string q.2.1) ∧ W.cell? ⟨b, off + k * 9 + 3 + 2, none⟩ = some (.string q.2.2) := by
  have h1 := h _ _ e
  have e1 : off + (k * 3 + 1) * 3 = off + k * 9 + 3 := by omega
  rw [e1] at h1
  exact ⟨h1.2.1, h1.2.2⟩
theorem RowT.at2 {W : World} {b off k : Nat} {ts : List TermD} {q : TermD} (h : RowT W b off ts) (e : ts[k * 3 + 2]? = some q) : W.cell? ⟨b, off + k * 9 + 6 + 1, none⟩ = some (.string q.2.1) ∧ W.cell? ⟨b, off + k * 9 + 6 + 2, none⟩ = some (.string q.2.2) := by
  have h1 := h _ _ e
  have e1 : off + (k * 3 + 2) * 3 = off + k * 9 + 6 := by omega
  rw [e1] at h1
  exact ⟨h1.2.1, h1.2.2⟩
def Small (q : TermD) : Prop := q.2.1.size ≤ 30000 ∧ q.2.2.size ≤ 30000
theorem RowT.below {W W' : World} {b off : Nat} {ts : List TermD} (h : RowT W b off ts) (k : Below W.heap.size W W') : RowT W' b off ts := fun p q e =>
  ⟨cell_below k (h p q e).1, cell_below k (h p q e).2.1, cell_below k (h p q e).2.2⟩

theorem small_next {ts : List TermD} {k : Nat} {q0 q1 q2 : TermD} (h : ∀ p q, p < k * 3 → ts[p]? = some q → Small q) (e0 : ts[k * 3]? = some q0) (e1 : ts[k * 3 + 1]? = some q1) (e2 : ts[k * 3 + 2]? = some q2)
    (s0 : Small q0) (s1 : Small q1) (s2 : Small q2) : ∀ p q, p < (k + 1) * 3 → ts[p]? = some q → Small q := by
  intro p q hp hq
  by_cases h1 : p < k * 3
  · exact h p q h1 hq
  · obtain rfl | rfl | rfl : p = k * 3 ∨ p = k * 3 + 1 ∨ p = k * 3 + 2 := by omega
    · rw [e0] at hq; cases hq; exact s0
    · rw [e1] at hq; cases hq; exact s1
    · rw [e2] at hq; cases hq; exact s2

/-- The answer of Much. -/
def MuchEnd (ts : List TermD) (most : Nat) (w : World) (e : Ending) (w' : World) : Prop :=
  ∃ v, e = .returned (.bool v) ∧ Below w.heap.size w w' ∧ (v = false → ts.length ≤ most * 3 ∧ ∀ q ∈ ts, Small q)

set_option maxRecDepth 100000 in
set_option maxHeartbeats 4000000 in
theorem much_any (b off n cap most : Nat) (ts : List TermD) (hl : ts.length = n * 3) (hn : n ≤ 9223372036854775807) (hm : most ≤ 1000000) (w : World) (hr : RowT w b off ts) :
    Calls Tryz.prog 23 #[.slice (some ⟨b, off, none⟩) n cap, .int .i64 most] w (MuchEnd ts most w) := by
  have HR := Lib.hid hr
  have HL := Lib.hid hl
  clear hr hl
  go_enter Tryz.func23, Tryz.ntmps23
  go_wp2
  go_loopw [5, 6] (fun s i wr => ∃ (k N : Nat), k ≤ n ∧ k ≤ most + 1 ∧ i = .int .i64 k ∧ s = .int .i64 N ∧ N ≤ 30000 ∧ (∀ p q, p < k * 3 → ts[p]? = some q → Small q) ∧ Below w.heap.size w wr) (fun _ i _ => n - (intOf i).toNat)
  case atStart => exact ⟨0, 0, Nat.zero_le _, Nat.zero_le _, rfl, rfl, Nat.zero_le _, fun p q h => absurd h (by omega), Below.refl _ _⟩
  case round =>
    obtain ⟨k, N, hk, hk2, rfl, rfl, hN, hS, hB⟩ := hrel
    have HS := Lib.hid hS
    have HB := Lib.hid hB
    clear hS hB
    by_cases hlt : k < n
    · have d1 : decide ((k : Int) < (n : Int)) = true := by simpa using hlt
      by_cases hlm : k ≤ most
      · have d2 : decide ((k : Int) ≤ (most : Int)) = true := by simpa using hlm
        obtain ⟨q0, hq0⟩ : ∃ q, ts[k * 3]? = some q := ⟨_, List.getElem?_eq_getElem (by have := HL.out; omega)⟩
        obtain ⟨q1, hq1⟩ : ∃ q, ts[k * 3 + 1]? = some q := ⟨_, List.getElem?_eq_getElem (by have := HL.out; omega)⟩
        obtain ⟨q2, hq2⟩ : ∃ q, ts[k * 3 + 2]? = some q := ⟨_, List.getElem?_eq_getElem (by have := HL.out; omega)⟩
        have c0 := Lib.hid (RowT.at0 ((HR.out.below HB.out)) hq0)
        have c1 := Lib.hid (RowT.at1 ((HR.out.below HB.out)) hq1)
        have c2 := Lib.hid (RowT.at2 ((HR.out.below HB.out)) hq2)
        have i0 : (0 : Int) ≤ (k : Int) := by omega
        have i1 : (k : Int) < (n : Int) := by omega
        go_wp2
        refine wp_loop_rounds 4 ?_
        rw [rounds_succ]
        go_wp2_with fail
        have D0 := Lib.hid (show wr.drew.cell? ⟨b, off + k * 9 + 1, none⟩ = some (.string q0.2.1) ∧ wr.drew.cell? ⟨b, off + k * 9 + 2, none⟩ = some (.string q0.2.2) ∧ (RowT wr.drew b off ts ∧ Below w.heap.size w wr.drew) from ⟨c0.out.1, c0.out.2, (HR.out.below HB.out.drew), HB.out.drew⟩)
        obtain ⟨M0, hM0⟩ : ∃ M : Nat, M = N + min q0.2.1.size 30001 + min q0.2.2.size 30001 := ⟨_, rfl⟩
        have a0 : IntKind.i64.wrap ((N : Int) + min (q0.2.1.size : Int) 30001) = (N : Int) + min (q0.2.1.size : Int) 30001 := IntWalk.i64_in _ (by omega)
        have b0 : IntKind.i64.wrap ((N : Int) + min (q0.2.1.size : Int) 30001 + min (q0.2.2.size : Int) 30001) = (M0 : Int) := (IntWalk.i64_in _ (by omega)).trans (by omega)
        have S0 := Lib.hid (show M0 ≤ 30000 → Small q0 from fun h => ⟨by omega, by omega⟩)
        clear hM0
        go_region_held3 (fun W' => W'.cell? ⟨b, off + k * 9 + 1, none⟩ = some (.string q0.2.1) ∧ W'.cell? ⟨b, off + k * 9 + 2, none⟩ = some (.string q0.2.2) ∧ (RowT W' b off ts ∧ Below w.heap.size w W')) ((first | assumption | exact D0.out)) (fail)
        all_goals
          rename_i hHeld
          have Y0 := Lib.hid hHeld.2.2
          clear hHeld D0 a0 b0
          by_cases g0 : 30000 < M0
          · have g : decide (30000 < M0) = true := by simpa using g0
            have g' : decide (30000 < (M0 : Int)) = true := by simp; omega
            go_wp2_with fail
            go_ret
            exact ⟨true, rfl, Y0.out.2, fun h => by cases h⟩
          have g : decide (30000 < M0) = false := by simpa using g0
          have g' : decide (30000 < (M0 : Int)) = false := by simp; omega
          have g0 : M0 ≤ 30000 := Nat.le_of_not_lt g0
          go_wp2_with fail
          clear g g'
          rw [rounds_succ]
          go_wp2_with fail
          obtain ⟨hR1, hB1⟩ := Y0.out
          have D1 := Lib.hid (show _ ∧ _ ∧ (RowT (World.drew _) b off ts ∧ Below w.heap.size w (World.drew _)) from ⟨(RowT.at1 hR1 hq1).1, (RowT.at1 hR1 hq1).2, hR1, hB1.drew⟩)
          clear hR1 hB1 Y0
          obtain ⟨M1, hM1⟩ : ∃ M : Nat, M = M0 + min q1.2.1.size 30001 + min q1.2.2.size 30001 := ⟨_, rfl⟩
          have a1 : IntKind.i64.wrap ((M0 : Int) + min (q1.2.1.size : Int) 30001) = (M0 : Int) + min (q1.2.1.size : Int) 30001 := IntWalk.i64_in _ (by omega)
          have b1 : IntKind.i64.wrap ((M0 : Int) + min (q1.2.1.size : Int) 30001 + min (q1.2.2.size : Int) 30001) = (M1 : Int) := (IntWalk.i64_in _ (by omega)).trans (by omega)
          have S1 := Lib.hid (show M1 ≤ 30000 → Small q1 from fun h => ⟨by omega, by omega⟩)
          clear hM1
          go_region_held3 (fun W' => W'.cell? ⟨b, off + k * 9 + 3 + 1, none⟩ = some (.string q1.2.1) ∧ W'.cell? ⟨b, off + k * 9 + 3 + 2, none⟩ = some (.string q1.2.2) ∧ (RowT W' b off ts ∧ Below w.heap.size w W')) ((first | assumption | exact D1.out)) (fail)
          all_goals
            rename_i hHeld
            have Y1 := Lib.hid hHeld.2.2
            clear hHeld D1 a1 b1
            by_cases g1 : 30000 < M1
            · have g : decide (30000 < M1) = true := by simpa using g1
              have g' : decide (30000 < (M1 : Int)) = true := by simp; omega
              go_wp2_with fail
              go_ret
              exact ⟨true, rfl, Y1.out.2, fun h => by cases h⟩
            have g : decide (30000 < M1) = false := by simpa using g1
            have g' : decide (30000 < (M1 : Int)) = false := by simp; omega
            have g1 : M1 ≤ 30000 := Nat.le_of_not_lt g1
            go_wp2_with fail
            clear g g'
            rw [rounds_succ]
            go_wp2_with fail
            obtain ⟨hR2, hB2⟩ := Y1.out
            have D2 := Lib.hid (show _ ∧ _ ∧ (RowT (World.drew _) b off ts ∧ Below w.heap.size w (World.drew _)) from ⟨(RowT.at2 hR2 hq2).1, (RowT.at2 hR2 hq2).2, hR2, hB2.drew⟩)
            clear hR2 hB2 Y1
            obtain ⟨M2, hM2⟩ : ∃ M : Nat, M = M1 + min q2.2.1.size 30001 + min q2.2.2.size 30001 := ⟨_, rfl⟩
            have a2 : IntKind.i64.wrap ((M1 : Int) + min (q2.2.1.size : Int) 30001) = (M1 : Int) + min (q2.2.1.size : Int) 30001 := IntWalk.i64_in _ (by omega)
            have b2 : IntKind.i64.wrap ((M1 : Int) + min (q2.2.1.size : Int) 30001 + min (q2.2.2.size : Int) 30001) = (M2 : Int) := (IntWalk.i64_in _ (by omega)).trans (by omega)
            have S2 := Lib.hid (show M2 ≤ 30000 → Small q2 from fun h => ⟨by omega, by omega⟩)
            clear hM2
            go_region_held3 (fun W' => W'.cell? ⟨b, off + k * 9 + 6 + 1, none⟩ = some (.string q2.2.1) ∧ W'.cell? ⟨b, off + k * 9 + 6 + 2, none⟩ = some (.string q2.2.2) ∧ (RowT W' b off ts ∧ Below w.heap.size w W')) ((first | assumption | exact D2.out)) (fail)
            all_goals
              rename_i hHeld
              have Y2 := Lib.hid hHeld.2.2
              clear hHeld D2 a2 b2
              by_cases g2 : 30000 < M2
              · have g : decide (30000 < M2) = true := by simpa using g2
                have g' : decide (30000 < (M2 : Int)) = true := by simp; omega
                go_wp2_with fail
                go_ret
                exact ⟨true, rfl, Y2.out.2, fun h => by cases h⟩
              have g : decide (30000 < M2) = false := by simpa using g2
              have g' : decide (30000 < (M2 : Int)) = false := by simp; omega
              have g2 : M2 ≤ 30000 := Nat.le_of_not_lt g2
              go_wp2_with fail
              clear g g'
              rw [rounds_succ]
              go_wp2_with fail
              go_roundw
              case rel => exact ⟨k + 1, M2, by omega, by omega, by go_num, rfl, g2, small_next HS.out hq0 hq1 hq2 (S0.out g0) (S1.out g1) (S2.out g2), Y2.out.2⟩
              case measure => simp [intOf]; omega
      · have d2 : decide ((k : Int) ≤ (most : Int)) = false := by simpa using hlm
        have d3 : decide (most < n) = true := by simp; omega
        go_wp2
        go_ret
        exact ⟨true, rfl, HB.out, fun h => by cases h⟩
    · have d1 : decide ((k : Int) < (n : Int)) = false := by simpa using hlt
      have HF : Hid (n ≤ most → ∀ q ∈ ts, Small q) := Lib.hid (fun _ q hq => by
        obtain ⟨p, hp⟩ := List.getElem?_of_mem hq
        refine HS.out p q ?_ hp
        have := (List.getElem?_eq_some_iff.1 hp).1
        have := HL.out
        omega)
      by_cases hnm : n ≤ most
      · have d3 : decide (most < n) = false := by simp; omega
        go_wp2
        go_ret
        exact ⟨false, rfl, HB.out, fun _ => ⟨by rw [HL.out]; omega, HF.out hnm⟩⟩
      · have d3 : decide (most < n) = true := by simp; omega
        go_wp2
        go_ret
        exact ⟨true, rfl, HB.out, fun h => by cases h⟩
end Go.Proofs.YtfldpfomecjdkaaGreatDoor
