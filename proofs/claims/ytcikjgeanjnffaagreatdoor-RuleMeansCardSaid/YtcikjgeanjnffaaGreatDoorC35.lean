/-
  WHAT THE PROOF STANDS ON, a part of it: RuCompare.
-/
import Derived.Test.YtcikjgeanjnffaaGreatDoorC31
import Derived.Test.YtcikjgeanjnffaaGreatDoorC15
/-
  THE CONTRACT OF rules.Compare. (Its region's S written by tools/genrusame6.py's words.)
-/

namespace Go.Proofs.YtcikjgeanjnffaaGreatDoor
open Go.RowKit
open Utf Term
set_option linter.unusedVariables false
set_option linter.unusedSimpArgs false

theorem rule_atn (w : World) (p : PatD) (v : Value) (t : TypeId) : RuleAt (w.alloc (.cells (ruleC p v) t)) w.heap.size 0 p v := by
  have h : ∀ j u, (ruleC p v)[j]? = some u → (w.alloc (.cells (ruleC p v) t)).cell? ⟨w.heap.size, 0 + j, none⟩ = some u := fun j u h => by
    rw [Nat.zero_add, World.cell?_alloc_at _ _ _ _ rfl]
    exact h
  exact ⟨h 0 _ rfl, h 1 _ rfl, h 2 _ rfl, h 3 _ rfl, h 4 _ rfl, h 5 _ rfl, h 6 _ rfl, h 7 _ rfl, h 8 _ rfl, h 9 _ rfl, h 10 _ rfl, h 11 _ rfl, h 12 _ rfl⟩
set_option maxRecDepth 100000 in
set_option maxHeartbeats 8000000 in
theorem ruCompare_any (p q : PatD) (v u : Value) (xs ys : List LitD) (hx : VastR (p, xs)) (hy : VastR (q, ys)) (m : Int) (w : World) (hm : HasMax w m) (hv : BodyS w v xs) (hu : BodyS w u ys) :
    Calls Tryz.prog 34 #[.agg (ruleC p v), .agg (ruleC q u)] w fun e w' => e = .returned (.int .i64 (cmpB (writtenT (p, xs)) (writtenT (q, ys)))) ∧ Below w.heap.size w w' := by
  have hWa := fun W (h : Below w.heap.size w W) => ruWritten_any p v xs hx.1 hx.2 m W (cell_below h hm) (hv.below h)
  have hWb := fun W (h : Below w.heap.size w W) => ruWritten_any q u ys hy.1 hy.2 m W (cell_below h hm) (hu.below h)
  obtain ⟨pv, cv, rfl, _, _⟩ := hv.form
  obtain ⟨pu, cu, rfl, _, _⟩ := hu.form
  obtain ⟨A, hA⟩ : ∃ A, A = writtenT (p, xs) := ⟨_, rfl⟩
  obtain ⟨B, hB⟩ : ∃ B, B = writtenT (q, ys) := ⟨_, rfl⟩
  rw [← hA] at hWa ⊢
  rw [← hB] at hWb ⊢
  obtain ⟨n1, hn1⟩ : ∃ n1, n1 = xs.length := ⟨_, rfl⟩
  obtain ⟨n2, hn2⟩ : ∃ n2, n2 = ys.length := ⟨_, rfl⟩
  rw [← hn1] at hWa ⊢
  rw [← hn2] at hWb ⊢
  clear hA hB hn1 hn2 hv hu hx hy hm
  obtain ⟨⟨a0, a1, a2, a3⟩, ⟨b0, b1, b2, b3⟩, ⟨c0, c1, c2, c3⟩⟩ := p
  obtain ⟨⟨d0, d1, d2, d3⟩, ⟨e0, e1, e2, e3⟩, ⟨f0, f1, f2, f3⟩⟩ := q
  have hB0 : Below w.heap.size w ((w.alloc (.cells (ruleC ((a0, a1, a2, a3), (b0, b1, b2, b3), (c0, c1, c2, c3)) (.slice pv n1 cv)) 31)).alloc (.cells (ruleC ((d0, d1, d2, d3), (e0, e1, e2, e3), (f0, f1, f2, f3)) (.slice pu n2 cu)) 31)) := ((Below.refl _ _).alloc (Nat.le_refl _) _).alloc (by simp) _
  have k1 := (rule_atn w ((a0, a1, a2, a3), (b0, b1, b2, b3), (c0, c1, c2, c3)) (.slice pv n1 cv) 31).below (below_new _ (.cells (ruleC ((d0, d1, d2, d3), (e0, e1, e2, e3), (f0, f1, f2, f3)) (.slice pu n2 cu)) 31))
  have k2 := rule_atn (w.alloc (.cells (ruleC ((a0, a1, a2, a3), (b0, b1, b2, b3), (c0, c1, c2, c3)) (.slice pv n1 cv)) 31)) ((d0, d1, d2, d3), (e0, e1, e2, e3), (f0, f1, f2, f3)) (.slice pu n2 cu) 31
  rw [World.size_alloc] at k2
  have HS := Lib.hid (same6_start k1 k2)
  have HB0 := Lib.hid hB0
  have HWa : Hid (∀ W, Below w.heap.size w W → Calls Tryz.prog 47 #[.agg #[.string a0, .int .i64 a1, .string a2, .string a3, .string b0, .int .i64 b1, .string b2, .string b3, .string c0, .int .i64 c1, .string c2, .string c3, .slice pv n1 cv]] W fun e w' => e = .returned (.string A) ∧ Below W.heap.size W w') := Lib.hid hWa
  have HWb : Hid (∀ W, Below w.heap.size w W → Calls Tryz.prog 47 #[.agg #[.string d0, .int .i64 d1, .string d2, .string d3, .string e0, .int .i64 e1, .string e2, .string e3, .string f0, .int .i64 f1, .string f2, .string f3, .slice pu n2 cu]] W fun e w' => e = .returned (.string B) ∧ Below W.heap.size W w') := Lib.hid hWb
  clear hWa hWb k1 k2 hB0
  go_enter Tryz.func34, Tryz.ntmps34
  go_upto_region 1 with fail
  generalize (w.alloc (.cells (ruleC ((a0, a1, a2, a3), (b0, b1, b2, b3), (c0, c1, c2, c3)) (.slice pv n1 cv)) 31)).alloc (.cells (ruleC ((d0, d1, d2, d3), (e0, e1, e2, e3), (f0, f1, f2, f3)) (.slice pu n2 cu)) 31) = w1 at *
  have HK : Hid (∀ W, Below w1.heap.size w1 W → Below w.heap.size w W) := Lib.hid (fun W h => HB0.out.trans (h.mono HB0.out.size))
  go_region_held3 (fun W' => W'.cell? ⟨w.heap.size, 0, none⟩ = some (.string a0) ∧ W'.cell? ⟨w.heap.size, 1, none⟩ = some (.int .i64 a1) ∧ W'.cell? ⟨w.heap.size, 2, none⟩ = some (.string a2) ∧ W'.cell? ⟨w.heap.size, 3, none⟩ = some (.string a3) ∧ W'.cell? ⟨w.heap.size, 4, none⟩ = some (.string b0) ∧ W'.cell? ⟨w.heap.size, 5, none⟩ = some (.int .i64 b1) ∧ W'.cell? ⟨w.heap.size, 6, none⟩ = some (.string b2) ∧ W'.cell? ⟨w.heap.size, 7, none⟩ = some (.string b3) ∧ W'.cell? ⟨w.heap.size, 8, none⟩ = some (.string c0) ∧ W'.cell? ⟨w.heap.size, 9, none⟩ = some (.int .i64 c1) ∧ W'.cell? ⟨w.heap.size, 10, none⟩ = some (.string c2) ∧ W'.cell? ⟨w.heap.size, 11, none⟩ = some (.string c3) ∧ W'.cell? ⟨w.heap.size, 12, none⟩ = some (.slice pv n1 cv) ∧ W'.cell? ⟨w.heap.size + 1, 0, none⟩ = some (.string d0) ∧ W'.cell? ⟨w.heap.size + 1, 1, none⟩ = some (.int .i64 d1) ∧ W'.cell? ⟨w.heap.size + 1, 2, none⟩ = some (.string d2) ∧ W'.cell? ⟨w.heap.size + 1, 3, none⟩ = some (.string d3) ∧ W'.cell? ⟨w.heap.size + 1, 4, none⟩ = some (.string e0) ∧ W'.cell? ⟨w.heap.size + 1, 5, none⟩ = some (.int .i64 e1) ∧ W'.cell? ⟨w.heap.size + 1, 6, none⟩ = some (.string e2) ∧ W'.cell? ⟨w.heap.size + 1, 7, none⟩ = some (.string e3) ∧ W'.cell? ⟨w.heap.size + 1, 8, none⟩ = some (.string f0) ∧ W'.cell? ⟨w.heap.size + 1, 9, none⟩ = some (.int .i64 f1) ∧ W'.cell? ⟨w.heap.size + 1, 10, none⟩ = some (.string f2) ∧ W'.cell? ⟨w.heap.size + 1, 11, none⟩ = some (.string f3) ∧ W'.cell? ⟨w.heap.size + 1, 12, none⟩ = some (.slice pu n2 cu) ∧ Below w1.heap.size w1 W') ((first | assumption | exact HS.out | exact same6_step (by assumption) (by assumption))) (first
    | (go_at_call 47; (with_reducible refine (HWa.out _ (HK.out _ (same6_low (by assumption)))).mono ?_); rintro e w3 ⟨rfl, hB3⟩)
    | (go_at_call 47; (with_reducible refine (HWb.out _ (HK.out _ (same6_low (by assumption)))).mono ?_); rintro e w3 ⟨rfl, hB3⟩)
    | (go_at_call 81; refine (cmpText_any _ _ _).mono ?_; rintro e w4 ⟨rfl, rfl⟩))
  all_goals
    rename_i hHeld
    have hbx := HK.out _ (same6_low hHeld)
    clear hHeld
    go_wp2_with fail
    go_ret
    exact ⟨rfl, hbx⟩
end Go.Proofs.YtcikjgeanjnffaaGreatDoor

