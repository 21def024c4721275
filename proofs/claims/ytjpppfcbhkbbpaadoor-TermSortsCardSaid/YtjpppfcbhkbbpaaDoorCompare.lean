/-
  CONTRACTS OF Compare, Less, CompareTriples. Written by tools/gencompare.py.
-/
import Derived.Test.YtjpppfcbhkbbpaaDoorTermD
import Derived.Deep.RegionHeld3
import Derived.Deep.RegionWith
import Derived.Test.YtjpppfcbhkbbpaaDoorOrderMath
import Derived.Test.YtjpppfcbhkbbpaaDoorShelf
namespace Go.Proofs.YtjpppfcbhkbbpaaDoor
open Go.RowKit
open Utf Term
set_option linter.unusedVariables false
set_option linter.unusedSimpArgs false

theorem cmpD_kind {k k' : Int} (h : k ≠ k') (t x t' x' : ByteArray) : cmpD (k, t, x) (k', t', x') = cmpI k k' := by
  have : cmpI k k' ≠ 0 := fun e => h (ord_int.of_eq e)
  unfold cmpD Term.Ord.lex
  rw [if_neg this]
theorem cmpD_same (k : Int) (t x t' x' : ByteArray) : cmpD (k, t, x) (k, t', x') = if cmpB t t' = 0 then cmpB x x' else cmpB t t' := by
  unfold cmpD Term.Ord.lex
  rw [if_pos (ord_int.refl _)]

theorem isNaN_any (k : Int) (w : World) : Calls Tryd.prog 57 #[.int .i64 k] w fun e w' => e = .returned (.bool false) ∧ w = w' := by
  go_enter Tryd.func57, Tryd.ntmps57
  go_wp2
  go_ret
  simp

theorem cmpKind_any (k k' : Int) (w : World) : Calls Tryd.prog 37 #[.int .i64 k, .int .i64 k'] w fun e w' => e = .returned (.int .i64 (cmpI k k')) ∧ w = w' := by
  by_cases h1 : k < k'
  · have HR : Hid (cmpI k k' = -1) := Lib.hid (by unfold cmpI; rw [if_pos h1])
    have e1 : decide (k < k') = true := by simpa using h1
    generalize cmpI k k' = R at *
    clear h1
    go_enter Tryd.func37, Tryd.ntmps37
    go_wp2_with (go_at_call 57; refine (isNaN_any _ _).mono ?_; rintro e w' ⟨rfl, rfl⟩)
    go_ret
    exact ⟨by rw [HR.out] <;> rfl, rfl⟩
  · have e1 : decide (k < k') = false := by simpa using h1
    by_cases h2 : k' < k
    · have HR : Hid (cmpI k k' = 1) := Lib.hid (by unfold cmpI; rw [if_neg h1, if_pos h2])
      have e2 : decide (k' < k) = true := by simpa using h2
      generalize cmpI k k' = R at *
      clear h1 h2
      go_enter Tryd.func37, Tryd.ntmps37
      go_wp2_with (go_at_call 57; refine (isNaN_any _ _).mono ?_; rintro e w' ⟨rfl, rfl⟩)
      go_ret
      exact ⟨by rw [HR.out] <;> rfl, rfl⟩
    · have HR : Hid (cmpI k k' = 0) := Lib.hid (by unfold cmpI; rw [if_neg h1, if_neg h2])
      have e2 : decide (k' < k) = false := by simpa using h2
      generalize cmpI k k' = R at *
      clear h1 h2
      go_enter Tryd.func37, Tryd.ntmps37
      go_wp2_with (go_at_call 57; refine (isNaN_any _ _).mono ?_; rintro e w' ⟨rfl, rfl⟩)
      go_ret
      exact ⟨by rw [HR.out] <;> rfl, rfl⟩

theorem cmpText_any (t t' : ByteArray) (w : World) : Calls Tryd.prog 38 #[.string t, .string t'] w fun e w' => e = .returned (.int .i64 (cmpB t t')) ∧ w = w' :=
  (Tryd.strings_Compare t t' w).mono fun e w' h => ⟨h.1, h.2.symm⟩

set_option maxRecDepth 100000 in
set_option maxHeartbeats 1000000 in
theorem compare_any (a b : TermD) (w : World) :
    Calls Tryd.prog 11 #[termD a, termD b] w fun e w' => e = .returned (.int .i64 (cmpD a b)) ∧ Below w.heap.size w w' := by
  obtain ⟨k, t, x⟩ := a
  obtain ⟨k', t', x'⟩ := b
  have HB : Hid (Below w.heap.size w ((w.alloc (.cells #[.int .i64 k, .string t, .string x] 24)).alloc (.cells #[.int .i64 k', .string t', .string x'] 24))) := Lib.hid (below_step (below_new _ _) (below_new _ _))
  by_cases hk : k = k'
  · subst hk
    have HR := Lib.hid (cmpD_same k t x t' x')
    have MT := fun W => cmpText_any t t' W
    have MX := fun W => cmpText_any x x' W
    have hr := ord_text.range t t'
    generalize cmpD (k, t, x) (k, t', x') = R at *
    generalize cmpB x x' = Nx at *
    generalize cmpB t t' = Nt at *
    rcases hr with rfl | rfl | rfl
    · go_enter Tryd.func11, Tryd.ntmps11
      go_wp2_with fail
      refine (MT _).mono ?_
      rintro e w2 ⟨rfl, rfl⟩
      go_wp2_with fail
      go_ret
      exact ⟨by rw [HR.out] <;> rfl, HB.out⟩
    · go_enter Tryd.func11, Tryd.ntmps11
      go_wp2_with fail
      refine (MT _).mono ?_
      rintro e w2 ⟨rfl, rfl⟩
      go_wp2_with fail
      refine (MX _).mono ?_
      rintro e w2 ⟨rfl, rfl⟩
      go_wp2_with fail
      go_ret
      exact ⟨by rw [HR.out] <;> rfl, HB.out⟩
    · go_enter Tryd.func11, Tryd.ntmps11
      go_wp2_with fail
      refine (MT _).mono ?_
      rintro e w2 ⟨rfl, rfl⟩
      go_wp2_with fail
      go_ret
      exact ⟨by rw [HR.out] <;> rfl, HB.out⟩
  · have HR := Lib.hid (cmpD_kind hk t x t' x')
    have e1 : (k == k') = false := by simpa using hk
    have MK := fun W => cmpKind_any k k' W
    generalize cmpD (k, t, x) (k', t', x') = R at *
    generalize cmpI k k' = Nk at *
    go_enter Tryd.func11, Tryd.ntmps11
    go_wp2_with fail
    refine (MK _).mono ?_
    rintro e w2 ⟨rfl, rfl⟩
    go_wp2_with fail
    go_ret
    exact ⟨by rw [HR.out] <;> rfl, HB.out⟩

set_option maxRecDepth 100000 in
theorem less_any (a b : TermD) (w : World) :
    Calls Tryd.prog 13 #[termD a, termD b] w fun e w' => e = .returned (.bool (decide (cmpD a b < 0))) ∧ Below w.heap.size w w' := by
  have HB : Hid (Below w.heap.size w ((w.alloc (.cells #[.int .i64 a.1, .string a.2.1, .string a.2.2] 24)).alloc (.cells #[.int .i64 b.1, .string b.2.1, .string b.2.2] 24))) := Lib.hid (below_step (below_new _ _) (below_new _ _))
  have MC := fun W => compare_any a b W
  generalize cmpD a b = N at *
  go_enter Tryd.func13, Tryd.ntmps13
  go_wp2_with fail
  refine (MC _).mono ?_
  rintro e w2 ⟨rfl, hB2⟩
  go_wp2_with fail
  go_ret
  exact ⟨rfl, below_step HB.out hB2⟩

theorem box2_start (w : World) (a0 a1 a2 b0 b1 b2 : TermD) : (fun W' => W'.cell? ⟨w.heap.size, 0, none⟩ = some (.int .i64 a0.1) ∧ W'.cell? ⟨w.heap.size, 1, none⟩ = some (.string a0.2.1) ∧ W'.cell? ⟨w.heap.size, 2, none⟩ = some (.string a0.2.2) ∧ W'.cell? ⟨w.heap.size, 3, none⟩ = some (.int .i64 a1.1) ∧ W'.cell? ⟨w.heap.size, 4, none⟩ = some (.string a1.2.1) ∧ W'.cell? ⟨w.heap.size, 5, none⟩ = some (.string a1.2.2) ∧ W'.cell? ⟨w.heap.size, 6, none⟩ = some (.int .i64 a2.1) ∧ W'.cell? ⟨w.heap.size, 7, none⟩ = some (.string a2.2.1) ∧ W'.cell? ⟨w.heap.size, 8, none⟩ = some (.string a2.2.2) ∧ W'.cell? ⟨w.heap.size + 1, 0, none⟩ = some (.int .i64 b0.1) ∧ W'.cell? ⟨w.heap.size + 1, 1, none⟩ = some (.string b0.2.1) ∧ W'.cell? ⟨w.heap.size + 1, 2, none⟩ = some (.string b0.2.2) ∧ W'.cell? ⟨w.heap.size + 1, 3, none⟩ = some (.int .i64 b1.1) ∧ W'.cell? ⟨w.heap.size + 1, 4, none⟩ = some (.string b1.2.1) ∧ W'.cell? ⟨w.heap.size + 1, 5, none⟩ = some (.string b1.2.2) ∧ W'.cell? ⟨w.heap.size + 1, 6, none⟩ = some (.int .i64 b2.1) ∧ W'.cell? ⟨w.heap.size + 1, 7, none⟩ = some (.string b2.2.1) ∧ W'.cell? ⟨w.heap.size + 1, 8, none⟩ = some (.string b2.2.2) ∧ Below w.heap.size w W') ((w.alloc (.cells #[.int .i64 a0.1, .string a0.2.1, .string a0.2.2, .int .i64 a1.1, .string a1.2.1, .string a1.2.2, .int .i64 a2.1, .string a2.2.1, .string a2.2.2] 26)).alloc (.cells #[.int .i64 b0.1, .string b0.2.1, .string b0.2.2, .int .i64 b1.1, .string b1.2.1, .string b1.2.2, .int .i64 b2.1, .string b2.2.1, .string b2.2.2] 26)) := by
  have hB : Below w.heap.size w ((w.alloc (.cells #[.int .i64 a0.1, .string a0.2.1, .string a0.2.2, .int .i64 a1.1, .string a1.2.1, .string a1.2.2, .int .i64 a2.1, .string a2.2.1, .string a2.2.2] 26)).alloc (.cells #[.int .i64 b0.1, .string b0.2.1, .string b0.2.2, .int .i64 b1.1, .string b1.2.1, .string b1.2.2, .int .i64 b2.1, .string b2.2.1, .string b2.2.2] 26)) := below_step (below_new _ _) (below_new _ _)
  have h1 : ∀ o v, (w.alloc (.cells #[.int .i64 a0.1, .string a0.2.1, .string a0.2.2, .int .i64 a1.1, .string a1.2.1, .string a1.2.2, .int .i64 a2.1, .string a2.2.1, .string a2.2.2] 26)).cell? ⟨w.heap.size, o, none⟩ = v → ((w.alloc (.cells #[.int .i64 a0.1, .string a0.2.1, .string a0.2.2, .int .i64 a1.1, .string a1.2.1, .string a1.2.2, .int .i64 a2.1, .string a2.2.1, .string a2.2.2] 26)).alloc (.cells #[.int .i64 b0.1, .string b0.2.1, .string b0.2.2, .int .i64 b1.1, .string b1.2.1, .string b1.2.2, .int .i64 b2.1, .string b2.2.1, .string b2.2.2] 26)).cell? ⟨w.heap.size, o, none⟩ = v := fun o v e => by
    have := (below_new (w.alloc (.cells #[.int .i64 a0.1, .string a0.2.1, .string a0.2.2, .int .i64 a1.1, .string a1.2.1, .string a1.2.2, .int .i64 a2.1, .string a2.2.1, .string a2.2.2] 26)) (.cells #[.int .i64 b0.1, .string b0.2.1, .string b0.2.2, .int .i64 b1.1, .string b1.2.1, .string b1.2.2, .int .i64 b2.1, .string b2.2.1, .string b2.2.2] 26)).cell (p := ⟨w.heap.size, o, none⟩) (by simp)
    rw [this, e]
  have hsz : (w.alloc (.cells #[.int .i64 a0.1, .string a0.2.1, .string a0.2.2, .int .i64 a1.1, .string a1.2.1, .string a1.2.2, .int .i64 a2.1, .string a2.2.1, .string a2.2.2] 26)).heap.size = w.heap.size + 1 := by simp
  refine ⟨h1 0 _ ?_, h1 1 _ ?_, h1 2 _ ?_, h1 3 _ ?_, h1 4 _ ?_, h1 5 _ ?_, h1 6 _ ?_, h1 7 _ ?_, h1 8 _ ?_, ?_, ?_, ?_, ?_, ?_, ?_, ?_, ?_, ?_, hB⟩
  all_goals
    first | (rw [World.cell?_alloc_at _ _ _ _ rfl]; rfl) | (rw [World.cell?_alloc_at _ _ _ _ hsz.symm]; rfl)
theorem box2_step {w u v : World} {a0 a1 a2 b0 b1 b2 : TermD} (h : (fun W' => W'.cell? ⟨w.heap.size, 0, none⟩ = some (.int .i64 a0.1) ∧ W'.cell? ⟨w.heap.size, 1, none⟩ = some (.string a0.2.1) ∧ W'.cell? ⟨w.heap.size, 2, none⟩ = some (.string a0.2.2) ∧ W'.cell? ⟨w.heap.size, 3, none⟩ = some (.int .i64 a1.1) ∧ W'.cell? ⟨w.heap.size, 4, none⟩ = some (.string a1.2.1) ∧ W'.cell? ⟨w.heap.size, 5, none⟩ = some (.string a1.2.2) ∧ W'.cell? ⟨w.heap.size, 6, none⟩ = some (.int .i64 a2.1) ∧ W'.cell? ⟨w.heap.size, 7, none⟩ = some (.string a2.2.1) ∧ W'.cell? ⟨w.heap.size, 8, none⟩ = some (.string a2.2.2) ∧ W'.cell? ⟨w.heap.size + 1, 0, none⟩ = some (.int .i64 b0.1) ∧ W'.cell? ⟨w.heap.size + 1, 1, none⟩ = some (.string b0.2.1) ∧ W'.cell? ⟨w.heap.size + 1, 2, none⟩ = some (.string b0.2.2) ∧ W'.cell? ⟨w.heap.size + 1, 3, none⟩ = some (.int .i64 b1.1) ∧ W'.cell? ⟨w.heap.size + 1, 4, none⟩ = some (.string b1.2.1) ∧ W'.cell? ⟨w.heap.size + 1, 5, none⟩ = some (.string b1.2.2) ∧ W'.cell? ⟨w.heap.size + 1, 6, none⟩ = some (.int .i64 b2.1) ∧ W'.cell? ⟨w.heap.size + 1, 7, none⟩ = some (.string b2.2.1) ∧ W'.cell? ⟨w.heap.size + 1, 8, none⟩ = some (.string b2.2.2) ∧ Below w.heap.size w W') u) (k : Below u.heap.size u v) : (fun W' => W'.cell? ⟨w.heap.size, 0, none⟩ = some (.int .i64 a0.1) ∧ W'.cell? ⟨w.heap.size, 1, none⟩ = some (.string a0.2.1) ∧ W'.cell? ⟨w.heap.size, 2, none⟩ = some (.string a0.2.2) ∧ W'.cell? ⟨w.heap.size, 3, none⟩ = some (.int .i64 a1.1) ∧ W'.cell? ⟨w.heap.size, 4, none⟩ = some (.string a1.2.1) ∧ W'.cell? ⟨w.heap.size, 5, none⟩ = some (.string a1.2.2) ∧ W'.cell? ⟨w.heap.size, 6, none⟩ = some (.int .i64 a2.1) ∧ W'.cell? ⟨w.heap.size, 7, none⟩ = some (.string a2.2.1) ∧ W'.cell? ⟨w.heap.size, 8, none⟩ = some (.string a2.2.2) ∧ W'.cell? ⟨w.heap.size + 1, 0, none⟩ = some (.int .i64 b0.1) ∧ W'.cell? ⟨w.heap.size + 1, 1, none⟩ = some (.string b0.2.1) ∧ W'.cell? ⟨w.heap.size + 1, 2, none⟩ = some (.string b0.2.2) ∧ W'.cell? ⟨w.heap.size + 1, 3, none⟩ = some (.int .i64 b1.1) ∧ W'.cell? ⟨w.heap.size + 1, 4, none⟩ = some (.string b1.2.1) ∧ W'.cell? ⟨w.heap.size + 1, 5, none⟩ = some (.string b1.2.2) ∧ W'.cell? ⟨w.heap.size + 1, 6, none⟩ = some (.int .i64 b2.1) ∧ W'.cell? ⟨w.heap.size + 1, 7, none⟩ = some (.string b2.2.1) ∧ W'.cell? ⟨w.heap.size + 1, 8, none⟩ = some (.string b2.2.2) ∧ Below w.heap.size w W') v := by
  obtain ⟨h0, h1, h2, h3, h4, h5, h6, h7, h8, h9, h10, h11, h12, h13, h14, h15, h16, h17, hB⟩ := h
  exact ⟨cell_below k h0, cell_below k h1, cell_below k h2, cell_below k h3, cell_below k h4, cell_below k h5, cell_below k h6, cell_below k h7, cell_below k h8, cell_below k h9, cell_below k h10, cell_below k h11, cell_below k h12, cell_below k h13, cell_below k h14, cell_below k h15, cell_below k h16, cell_below k h17, below_step hB k⟩
theorem box2_drew {w u : World} {a0 a1 a2 b0 b1 b2 : TermD} (h : (fun W' => W'.cell? ⟨w.heap.size, 0, none⟩ = some (.int .i64 a0.1) ∧ W'.cell? ⟨w.heap.size, 1, none⟩ = some (.string a0.2.1) ∧ W'.cell? ⟨w.heap.size, 2, none⟩ = some (.string a0.2.2) ∧ W'.cell? ⟨w.heap.size, 3, none⟩ = some (.int .i64 a1.1) ∧ W'.cell? ⟨w.heap.size, 4, none⟩ = some (.string a1.2.1) ∧ W'.cell? ⟨w.heap.size, 5, none⟩ = some (.string a1.2.2) ∧ W'.cell? ⟨w.heap.size, 6, none⟩ = some (.int .i64 a2.1) ∧ W'.cell? ⟨w.heap.size, 7, none⟩ = some (.string a2.2.1) ∧ W'.cell? ⟨w.heap.size, 8, none⟩ = some (.string a2.2.2) ∧ W'.cell? ⟨w.heap.size + 1, 0, none⟩ = some (.int .i64 b0.1) ∧ W'.cell? ⟨w.heap.size + 1, 1, none⟩ = some (.string b0.2.1) ∧ W'.cell? ⟨w.heap.size + 1, 2, none⟩ = some (.string b0.2.2) ∧ W'.cell? ⟨w.heap.size + 1, 3, none⟩ = some (.int .i64 b1.1) ∧ W'.cell? ⟨w.heap.size + 1, 4, none⟩ = some (.string b1.2.1) ∧ W'.cell? ⟨w.heap.size + 1, 5, none⟩ = some (.string b1.2.2) ∧ W'.cell? ⟨w.heap.size + 1, 6, none⟩ = some (.int .i64 b2.1) ∧ W'.cell? ⟨w.heap.size + 1, 7, none⟩ = some (.string b2.2.1) ∧ W'.cell? ⟨w.heap.size + 1, 8, none⟩ = some (.string b2.2.2) ∧ Below w.heap.size w W') u) : (fun W' => W'.cell? ⟨w.heap.size, 0, none⟩ = some (.int .i64 a0.1) ∧ W'.cell? ⟨w.heap.size, 1, none⟩ = some (.string a0.2.1) ∧ W'.cell? ⟨w.heap.size, 2, none⟩ = some (.string a0.2.2) ∧ W'.cell? ⟨w.heap.size, 3, none⟩ = some (.int .i64 a1.1) ∧ W'.cell? ⟨w.heap.size, 4, none⟩ = some (.string a1.2.1) ∧ W'.cell? ⟨w.heap.size, 5, none⟩ = some (.string a1.2.2) ∧ W'.cell? ⟨w.heap.size, 6, none⟩ = some (.int .i64 a2.1) ∧ W'.cell? ⟨w.heap.size, 7, none⟩ = some (.string a2.2.1) ∧ W'.cell? ⟨w.heap.size, 8, none⟩ = some (.string a2.2.2) ∧ W'.cell? ⟨w.heap.size + 1, 0, none⟩ = some (.int .i64 b0.1) ∧ W'.cell? ⟨w.heap.size + 1, 1, none⟩ = some (.string b0.2.1) ∧ W'.cell? ⟨w.heap.size + 1, 2, none⟩ = some (.string b0.2.2) ∧ W'.cell? ⟨w.heap.size + 1, 3, none⟩ = some (.int .i64 b1.1) ∧ W'.cell? ⟨w.heap.size + 1, 4, none⟩ = some (.string b1.2.1) ∧ W'.cell? ⟨w.heap.size + 1, 5, none⟩ = some (.string b1.2.2) ∧ W'.cell? ⟨w.heap.size + 1, 6, none⟩ = some (.int .i64 b2.1) ∧ W'.cell? ⟨w.heap.size + 1, 7, none⟩ = some (.string b2.2.1) ∧ W'.cell? ⟨w.heap.size + 1, 8, none⟩ = some (.string b2.2.2) ∧ Below w.heap.size w W') u.drew := by
  obtain ⟨h0, h1, h2, h3, h4, h5, h6, h7, h8, h9, h10, h11, h12, h13, h14, h15, h16, h17, hB⟩ := h
  exact ⟨h0, h1, h2, h3, h4, h5, h6, h7, h8, h9, h10, h11, h12, h13, h14, h15, h16, h17, hB.drew⟩
theorem box2_below {w u : World} {a0 a1 a2 b0 b1 b2 : TermD} (h : (fun W' => W'.cell? ⟨w.heap.size, 0, none⟩ = some (.int .i64 a0.1) ∧ W'.cell? ⟨w.heap.size, 1, none⟩ = some (.string a0.2.1) ∧ W'.cell? ⟨w.heap.size, 2, none⟩ = some (.string a0.2.2) ∧ W'.cell? ⟨w.heap.size, 3, none⟩ = some (.int .i64 a1.1) ∧ W'.cell? ⟨w.heap.size, 4, none⟩ = some (.string a1.2.1) ∧ W'.cell? ⟨w.heap.size, 5, none⟩ = some (.string a1.2.2) ∧ W'.cell? ⟨w.heap.size, 6, none⟩ = some (.int .i64 a2.1) ∧ W'.cell? ⟨w.heap.size, 7, none⟩ = some (.string a2.2.1) ∧ W'.cell? ⟨w.heap.size, 8, none⟩ = some (.string a2.2.2) ∧ W'.cell? ⟨w.heap.size + 1, 0, none⟩ = some (.int .i64 b0.1) ∧ W'.cell? ⟨w.heap.size + 1, 1, none⟩ = some (.string b0.2.1) ∧ W'.cell? ⟨w.heap.size + 1, 2, none⟩ = some (.string b0.2.2) ∧ W'.cell? ⟨w.heap.size + 1, 3, none⟩ = some (.int .i64 b1.1) ∧ W'.cell? ⟨w.heap.size + 1, 4, none⟩ = some (.string b1.2.1) ∧ W'.cell? ⟨w.heap.size + 1, 5, none⟩ = some (.string b1.2.2) ∧ W'.cell? ⟨w.heap.size + 1, 6, none⟩ = some (.int .i64 b2.1) ∧ W'.cell? ⟨w.heap.size + 1, 7, none⟩ = some (.string b2.2.1) ∧ W'.cell? ⟨w.heap.size + 1, 8, none⟩ = some (.string b2.2.2) ∧ Below w.heap.size w W') u) : Below w.heap.size w u := h.2.2.2.2.2.2.2.2.2.2.2.2.2.2.2.2.2.2


set_option maxRecDepth 100000 in
set_option maxHeartbeats 4000000 in
theorem compareTriples_any (a0 a1 a2 b0 b1 b2 : TermD) (w : World) :
    Calls Tryd.prog 15 #[tripleV a0 a1 a2, tripleV b0 b1 b2] w fun e w' => e = .returned (.int .i64 (cmpT (a0, a1, a2) (b0, b1, b2))) ∧ Below w.heap.size w w' := by
  have M0 := fun W => compare_any a0 b0 W
  have M1 := fun W => compare_any a1 b1 W
  have M2 := fun W => compare_any a2 b2 W
  have HR : Hid (cmpT (a0, a1, a2) (b0, b1, b2) = if cmpD a0 b0 = 0 then (if cmpD a1 b1 = 0 then cmpD a2 b2 else cmpD a1 b1) else cmpD a0 b0) := Lib.hid rfl
  have r0 := Lib.hid (ord_term.range a0 b0)
  have r1 := Lib.hid (ord_term.range a1 b1)
  have r2 := Lib.hid (ord_term.range a2 b2)
  have HS := Lib.hid (box2_start w a0 a1 a2 b0 b1 b2)
  generalize cmpT (a0, a1, a2) (b0, b1, b2) = R at *
  generalize cmpD a0 b0 = n0 at *
  generalize cmpD a1 b1 = n1 at *
  generalize cmpD a2 b2 = n2 at *
  go_enter Tryd.func15, Tryd.ntmps15
  go_wp2
  refine wp_loop_rounds 4 ?_
  rw [rounds_succ]
  go_wp2_with fail
  have D0 := Lib.hid (box2_drew HS.out)
  clear HS
  go_region_held3 (fun W' => W'.cell? ⟨w.heap.size, 0, none⟩ = some (.int .i64 a0.1) ∧ W'.cell? ⟨w.heap.size, 1, none⟩ = some (.string a0.2.1) ∧ W'.cell? ⟨w.heap.size, 2, none⟩ = some (.string a0.2.2) ∧ W'.cell? ⟨w.heap.size, 3, none⟩ = some (.int .i64 a1.1) ∧ W'.cell? ⟨w.heap.size, 4, none⟩ = some (.string a1.2.1) ∧ W'.cell? ⟨w.heap.size, 5, none⟩ = some (.string a1.2.2) ∧ W'.cell? ⟨w.heap.size, 6, none⟩ = some (.int .i64 a2.1) ∧ W'.cell? ⟨w.heap.size, 7, none⟩ = some (.string a2.2.1) ∧ W'.cell? ⟨w.heap.size, 8, none⟩ = some (.string a2.2.2) ∧ W'.cell? ⟨w.heap.size + 1, 0, none⟩ = some (.int .i64 b0.1) ∧ W'.cell? ⟨w.heap.size + 1, 1, none⟩ = some (.string b0.2.1) ∧ W'.cell? ⟨w.heap.size + 1, 2, none⟩ = some (.string b0.2.2) ∧ W'.cell? ⟨w.heap.size + 1, 3, none⟩ = some (.int .i64 b1.1) ∧ W'.cell? ⟨w.heap.size + 1, 4, none⟩ = some (.string b1.2.1) ∧ W'.cell? ⟨w.heap.size + 1, 5, none⟩ = some (.string b1.2.2) ∧ W'.cell? ⟨w.heap.size + 1, 6, none⟩ = some (.int .i64 b2.1) ∧ W'.cell? ⟨w.heap.size + 1, 7, none⟩ = some (.string b2.2.1) ∧ W'.cell? ⟨w.heap.size + 1, 8, none⟩ = some (.string b2.2.2) ∧ Below w.heap.size w W') ((first | assumption | exact D0.out | exact box2_step (by assumption) (by assumption))) ((go_at_call 11; refine (M0 _).mono ?_; rintro e y0 ⟨rfl, hY0⟩))
  rename_i hHeld
  have H0 := Lib.hid hHeld
  clear hHeld D0
  rcases r0.out with rfl | rfl | rfl
  · go_wp2_with fail
    go_ret
    exact ⟨by rw [HR.out] <;> rfl, box2_below H0.out⟩
  rotate_left
  · go_wp2_with fail
    go_ret
    exact ⟨by rw [HR.out] <;> rfl, box2_below H0.out⟩
  go_wp2_with fail
  rw [rounds_succ]
  go_wp2_with fail
  have D1 := Lib.hid (box2_drew H0.out)
  clear H0
  go_region_held3 (fun W' => W'.cell? ⟨w.heap.size, 0, none⟩ = some (.int .i64 a0.1) ∧ W'.cell? ⟨w.heap.size, 1, none⟩ = some (.string a0.2.1) ∧ W'.cell? ⟨w.heap.size, 2, none⟩ = some (.string a0.2.2) ∧ W'.cell? ⟨w.heap.size, 3, none⟩ = some (.int .i64 a1.1) ∧ W'.cell? ⟨w.heap.size, 4, none⟩ = some (.string a1.2.1) ∧ W'.cell? ⟨w.heap.size, 5, none⟩ = some (.string a1.2.2) ∧ W'.cell? ⟨w.heap.size, 6, none⟩ = some (.int .i64 a2.1) ∧ W'.cell? ⟨w.heap.size, 7, none⟩ = some (.string a2.2.1) ∧ W'.cell? ⟨w.heap.size, 8, none⟩ = some (.string a2.2.2) ∧ W'.cell? ⟨w.heap.size + 1, 0, none⟩ = some (.int .i64 b0.1) ∧ W'.cell? ⟨w.heap.size + 1, 1, none⟩ = some (.string b0.2.1) ∧ W'.cell? ⟨w.heap.size + 1, 2, none⟩ = some (.string b0.2.2) ∧ W'.cell? ⟨w.heap.size + 1, 3, none⟩ = some (.int .i64 b1.1) ∧ W'.cell? ⟨w.heap.size + 1, 4, none⟩ = some (.string b1.2.1) ∧ W'.cell? ⟨w.heap.size + 1, 5, none⟩ = some (.string b1.2.2) ∧ W'.cell? ⟨w.heap.size + 1, 6, none⟩ = some (.int .i64 b2.1) ∧ W'.cell? ⟨w.heap.size + 1, 7, none⟩ = some (.string b2.2.1) ∧ W'.cell? ⟨w.heap.size + 1, 8, none⟩ = some (.string b2.2.2) ∧ Below w.heap.size w W') ((first | assumption | exact D1.out | exact box2_step (by assumption) (by assumption))) ((go_at_call 11; refine (M1 _).mono ?_; rintro e y1 ⟨rfl, hY1⟩))
  rename_i hHeld
  have H1 := Lib.hid hHeld
  clear hHeld D1
  rcases r1.out with rfl | rfl | rfl
  · go_wp2_with fail
    go_ret
    exact ⟨by rw [HR.out] <;> rfl, box2_below H1.out⟩
  rotate_left
  · go_wp2_with fail
    go_ret
    exact ⟨by rw [HR.out] <;> rfl, box2_below H1.out⟩
  go_wp2_with fail
  rw [rounds_succ]
  go_wp2_with fail
  have D2 := Lib.hid (box2_drew H1.out)
  clear H1
  go_region_held3 (fun W' => W'.cell? ⟨w.heap.size, 0, none⟩ = some (.int .i64 a0.1) ∧ W'.cell? ⟨w.heap.size, 1, none⟩ = some (.string a0.2.1) ∧ W'.cell? ⟨w.heap.size, 2, none⟩ = some (.string a0.2.2) ∧ W'.cell? ⟨w.heap.size, 3, none⟩ = some (.int .i64 a1.1) ∧ W'.cell? ⟨w.heap.size, 4, none⟩ = some (.string a1.2.1) ∧ W'.cell? ⟨w.heap.size, 5, none⟩ = some (.string a1.2.2) ∧ W'.cell? ⟨w.heap.size, 6, none⟩ = some (.int .i64 a2.1) ∧ W'.cell? ⟨w.heap.size, 7, none⟩ = some (.string a2.2.1) ∧ W'.cell? ⟨w.heap.size, 8, none⟩ = some (.string a2.2.2) ∧ W'.cell? ⟨w.heap.size + 1, 0, none⟩ = some (.int .i64 b0.1) ∧ W'.cell? ⟨w.heap.size + 1, 1, none⟩ = some (.string b0.2.1) ∧ W'.cell? ⟨w.heap.size + 1, 2, none⟩ = some (.string b0.2.2) ∧ W'.cell? ⟨w.heap.size + 1, 3, none⟩ = some (.int .i64 b1.1) ∧ W'.cell? ⟨w.heap.size + 1, 4, none⟩ = some (.string b1.2.1) ∧ W'.cell? ⟨w.heap.size + 1, 5, none⟩ = some (.string b1.2.2) ∧ W'.cell? ⟨w.heap.size + 1, 6, none⟩ = some (.int .i64 b2.1) ∧ W'.cell? ⟨w.heap.size + 1, 7, none⟩ = some (.string b2.2.1) ∧ W'.cell? ⟨w.heap.size + 1, 8, none⟩ = some (.string b2.2.2) ∧ Below w.heap.size w W') ((first | assumption | exact D2.out | exact box2_step (by assumption) (by assumption))) ((go_at_call 11; refine (M2 _).mono ?_; rintro e y2 ⟨rfl, hY2⟩))
  rename_i hHeld
  have H2 := Lib.hid hHeld
  clear hHeld D2
  rcases r2.out with rfl | rfl | rfl
  · go_wp2_with fail
    go_ret
    exact ⟨by rw [HR.out] <;> rfl, box2_below H2.out⟩
  rotate_left
  · go_wp2_with fail
    go_ret
    exact ⟨by rw [HR.out] <;> rfl, box2_below H2.out⟩
  go_wp2_with fail
  rw [rounds_succ]
  go_wp2_with fail
  go_ret
  exact ⟨by rw [HR.out] <;> rfl, box2_below H2.out⟩
end Go.Proofs.YtjpppfcbhkbbpaaDoor
