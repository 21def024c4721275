/-
  CONTRACTS OF Compare, CompareTriples THAT TELL THE WORLD: blocks and draws alone are new. Written by tools/gencompareg.py.
-/
import Derived.Test.YtjpppfcbhkbbpaaDoorCompare
import Derived.Sort.Grow
import Derived.Deep.Draws
namespace Go.Proofs.YtjpppfcbhkbbpaaDoor
open Go.RowKit
open Utf Term
set_option linter.unusedVariables false
set_option linter.unusedSimpArgs false

/-- Blocks and draws alone are new. -/
def Grown (w w' : World) : Prop := ∃ q os, w' = Sort.grow (w.drewN q) os
theorem Grown.new (w : World) (o : Obj) : Grown w (w.alloc o) := ⟨0, #[o], by rw [Sort.alloc_eq_grow]; rfl⟩
theorem Grown.drew {w u : World} (h : Grown w u) : Grown w u.drew := by
  obtain ⟨q, os, rfl⟩ := h
  exact ⟨q + 1, os, rfl⟩
theorem Grown.step {w u v : World} (h : Grown w u) (k : Grown u v) : Grown w v := by
  obtain ⟨q, os, rfl⟩ := h
  obtain ⟨q', os', rfl⟩ := k
  refine ⟨q + q', os ++ os', ?_⟩
  have e : (Sort.grow (w.drewN q) os).drewN q' = Sort.grow (w.drewN (q + q')) os := by
    unfold Sort.grow World.drewN
    simp [Nat.add_assoc]
  rw [e, Sort.grow_grow]
theorem Grown.below {w u : World} (h : Grown w u) : Below w.heap.size w u := by
  obtain ⟨q, os, rfl⟩ := h
  refine ⟨rfl, rfl, rfl, ?_, ?_⟩
  · show w.heap.size ≤ (w.heap ++ os).size
    simp
  · intro k hk
    show (w.heap ++ os)[k]? = w.heap[k]?
    rw [Array.getElem?_append_left hk]

set_option maxRecDepth 100000 in
set_option maxHeartbeats 1000000 in
theorem compareG_any (a b : TermD) (w : World) :
    Calls Tryd.prog 11 #[termD a, termD b] w fun e w' => e = .returned (.int .i64 (cmpD a b)) ∧ Grown w w' := by
  obtain ⟨k, t, x⟩ := a
  obtain ⟨k', t', x'⟩ := b
  have HB : Hid (Grown w ((w.alloc (.cells #[.int .i64 k, .string t, .string x] 24)).alloc (.cells #[.int .i64 k', .string t', .string x'] 24))) := Lib.hid ((Grown.new _ _).step (Grown.new _ _))
  by_cases hk : k = k'
  · subst hk
    have HR := Lib.hid (cmpD_same k t x t' x')
    have MT := fun W => cmpText_any t t' W
    have MX := fun W => cmpText_any x x' W
    have hr := ord_text.range t t'
    generalize cmpD (k, t, x) (k, t', x') = R at *
    generalize cmpB x x' = Nx at *
    generalize cmpB t t' = Nt at *
    rcases hr with rfl | rfl | rfl
    · go_enter Tryd.func11, Tryd.ntmps11
      go_wp2_with fail
      refine (MT _).mono ?_
      rintro e w2 ⟨rfl, rfl⟩
      go_wp2_with fail
      go_ret
      exact ⟨by rw [HR.out] <;> rfl, HB.out⟩
    · go_enter Tryd.func11, Tryd.ntmps11
      go_wp2_with fail
      refine (MT _).mono ?_
      rintro e w2 ⟨rfl, rfl⟩
      go_wp2_with fail
      refine (MX _).mono ?_
      rintro e w2 ⟨rfl, rfl⟩
      go_wp2_with fail
      go_ret
      exact ⟨by rw [HR.out] <;> rfl, HB.out⟩
    · go_enter Tryd.func11, Tryd.ntmps11
      go_wp2_with fail
      refine (MT _).mono ?_
      rintro e w2 ⟨rfl, rfl⟩
      go_wp2_with fail
      go_ret
      exact ⟨by rw [HR.out] <;> rfl, HB.out⟩
  · have HR := Lib.hid (cmpD_kind hk t x t' x')
    have e1 : (k == k') = false := by simpa using hk
    have MK := fun W => cmpKind_any k k' W
    generalize cmpD (k, t, x) (k', t', x') = R at *
    generalize cmpI k k' = Nk at *
    go_enter Tryd.func11, Tryd.ntmps11
    go_wp2_with fail
    refine (MK _).mono ?_
    rintro e w2 ⟨rfl, rfl⟩
    go_wp2_with fail
    go_ret
    exact ⟨by rw [HR.out] <;> rfl, HB.out⟩

theorem box2G_start (w : World) (a0 a1 a2 b0 b1 b2 : TermD) : (fun W' => W'.cell? ⟨w.heap.size, 0, none⟩ = some (.int .i64 a0.1) ∧ W'.cell? ⟨w.heap.size, 1, none⟩ = some (.string a0.2.1) ∧ W'.cell? ⟨w.heap.size, 2, none⟩ = some (.string a0.2.2) ∧ W'.cell? ⟨w.heap.size, 3, none⟩ = some (.int .i64 a1.1) ∧ W'.cell? ⟨w.heap.size, 4, none⟩ = some (.string a1.2.1) ∧ W'.cell? ⟨w.heap.size, 5, none⟩ = some (.string a1.2.2) ∧ W'.cell? ⟨w.heap.size, 6, none⟩ = some (.int .i64 a2.1) ∧ W'.cell? ⟨w.heap.size, 7, none⟩ = some (.string a2.2.1) ∧ W'.cell? ⟨w.heap.size, 8, none⟩ = some (.string a2.2.2) ∧ W'.cell? ⟨w.heap.size + 1, 0, none⟩ = some (.int .i64 b0.1) ∧ W'.cell? ⟨w.heap.size + 1, 1, none⟩ = some (.string b0.2.1) ∧ W'.cell? ⟨w.heap.size + 1, 2, none⟩ = some (.string b0.2.2) ∧ W'.cell? ⟨w.heap.size + 1, 3, none⟩ = some (.int .i64 b1.1) ∧ W'.cell? ⟨w.heap.size + 1, 4, none⟩ = some (.string b1.2.1) ∧ W'.cell? ⟨w.heap.size + 1, 5, none⟩ = some (.string b1.2.2) ∧ W'.cell? ⟨w.heap.size + 1, 6, none⟩ = some (.int .i64 b2.1) ∧ W'.cell? ⟨w.heap.size + 1, 7, none⟩ = some (.string b2.2.1) ∧ W'.cell? ⟨w.heap.size + 1, 8, none⟩ = some (.string b2.2.2) ∧ Grown w W') ((w.alloc (.cells #[.int .i64 a0.1, .string a0.2.1, .string a0.2.2, .int .i64 a1.1, .string a1.2.1, .string a1.2.2, .int .i64 a2.1, .string a2.2.1, .string a2.2.2] 26)).alloc (.cells #[.int .i64 b0.1, .string b0.2.1, .string b0.2.2, .int .i64 b1.1, .string b1.2.1, .string b1.2.2, .int .i64 b2.1, .string b2.2.1, .string b2.2.2] 26)) := by
  have hB : Grown w ((w.alloc (.cells #[.int .i64 a0.1, .string a0.2.1, .string a0.2.2, .int .i64 a1.1, .string a1.2.1, .string a1.2.2, .int .i64 a2.1, .string a2.2.1, .string a2.2.2] 26)).alloc (.cells #[.int .i64 b0.1, .string b0.2.1, .string b0.2.2, .int .i64 b1.1, .string b1.2.1, .string b1.2.2, .int .i64 b2.1, .string b2.2.1, .string b2.2.2] 26)) := (Grown.new _ _).step (Grown.new _ _)
  have h1 : ∀ o v, (w.alloc (.cells #[.int .i64 a0.1, .string a0.2.1, .string a0.2.2, .int .i64 a1.1, .string a1.2.1, .string a1.2.2, .int .i64 a2.1, .string a2.2.1, .string a2.2.2] 26)).cell? ⟨w.heap.size, o, none⟩ = v → ((w.alloc (.cells #[.int .i64 a0.1, .string a0.2.1, .string a0.2.2, .int .i64 a1.1, .string a1.2.1, .string a1.2.2, .int .i64 a2.1, .string a2.2.1, .string a2.2.2] 26)).alloc (.cells #[.int .i64 b0.1, .string b0.2.1, .string b0.2.2, .int .i64 b1.1, .string b1.2.1, .string b1.2.2, .int .i64 b2.1, .string b2.2.1, .string b2.2.2] 26)).cell? ⟨w.heap.size, o, none⟩ = v := fun o v e => by
    have := (below_new (w.alloc (.cells #[.int .i64 a0.1, .string a0.2.1, .string a0.2.2, .int .i64 a1.1, .string a1.2.1, .string a1.2.2, .int .i64 a2.1, .string a2.2.1, .string a2.2.2] 26)) (.cells #[.int .i64 b0.1, .string b0.2.1, .string b0.2.2, .int .i64 b1.1, .string b1.2.1, .string b1.2.2, .int .i64 b2.1, .string b2.2.1, .string b2.2.2] 26)).cell (p := ⟨w.heap.size, o, none⟩) (by simp)
    rw [this, e]
  have hsz : (w.alloc (.cells #[.int .i64 a0.1, .string a0.2.1, .string a0.2.2, .int .i64 a1.1, .string a1.2.1, .string a1.2.2, .int .i64 a2.1, .string a2.2.1, .string a2.2.2] 26)).heap.size = w.heap.size + 1 := by simp
  refine ⟨h1 0 _ ?_, h1 1 _ ?_, h1 2 _ ?_, h1 3 _ ?_, h1 4 _ ?_, h1 5 _ ?_, h1 6 _ ?_, h1 7 _ ?_, h1 8 _ ?_, ?_, ?_, ?_, ?_, ?_, ?_, ?_, ?_, ?_, hB⟩
  all_goals
    first | (rw [World.cell?_alloc_at _ _ _ _ rfl]; rfl) | (rw [World.cell?_alloc_at _ _ _ _ hsz.symm]; rfl)
theorem box2G_step {w u v : World} {a0 a1 a2 b0 b1 b2 : TermD} (h : (fun W' => W'.cell? ⟨w.heap.size, 0, none⟩ = some (.int .i64 a0.1) ∧ W'.cell? ⟨w.heap.size, 1, none⟩ = some (.string a0.2.1) ∧ W'.cell? ⟨w.heap.size, 2, none⟩ = some (.string a0.2.2) ∧ W'.cell? ⟨w.heap.size, 3, none⟩ = some (.int .i64 a1.1) ∧ W'.cell? ⟨w.heap.size, 4, none⟩ = some (.string a1.2.1) ∧ W'.cell? ⟨w.heap.size, 5, none⟩ = some (.string a1.2.2) ∧ W'.cell? ⟨w.heap.size, 6, none⟩ = some (.int .i64 a2.1) ∧ W'.cell? ⟨w.heap.size, 7, none⟩ = some (.string a2.2.1) ∧ W'.cell? ⟨w.heap.size, 8, none⟩ = some (.string a2.2.2) ∧ W'.cell? ⟨w.heap.size + 1, 0, none⟩ = some (.int .i64 b0.1) ∧ W'.cell? ⟨w.heap.size + 1, 1, none⟩ = some (.string b0.2.1) ∧ W'.cell? ⟨w.heap.size + 1, 2, none⟩ = some (.string b0.2.2) ∧ W'.cell? ⟨w.heap.size + 1, 3, none⟩ = some (.int .i64 b1.1) ∧ W'.cell? ⟨w.heap.size + 1, 4, none⟩ = some (.string b1.2.1) ∧ W'.cell? ⟨w.heap.size + 1, 5, none⟩ = some (.string b1.2.2) ∧ W'.cell? ⟨w.heap.size + 1, 6, none⟩ = some (.int .i64 b2.1) ∧ W'.cell? ⟨w.heap.size + 1, 7, none⟩ = some (.string b2.2.1) ∧ W'.cell? ⟨w.heap.size + 1, 8, none⟩ = some (.string b2.2.2) ∧ Grown w W') u) (k : Grown u v) : (fun W' => W'.cell? ⟨w.heap.size, 0, none⟩ = some (.int .i64 a0.1) ∧ W'.cell? ⟨w.heap.size, 1, none⟩ = some (.string a0.2.1) ∧ W'.cell? ⟨w.heap.size, 2, none⟩ = some (.string a0.2.2) ∧ W'.cell? ⟨w.heap.size, 3, none⟩ = some (.int .i64 a1.1) ∧ W'.cell? ⟨w.heap.size, 4, none⟩ = some (.string a1.2.1) ∧ W'.cell? ⟨w.heap.size, 5, none⟩ = some (.string a1.2.2) ∧ W'.cell? ⟨w.heap.size, 6, none⟩ = some (.int .i64 a2.1) ∧ W'.cell? ⟨w.heap.size, 7, none⟩ = some (.string a2.2.1) ∧ W'.cell? ⟨w.heap.size, 8, none⟩ = some (.string a2.2.2) ∧ W'.cell? ⟨w.heap.size + 1, 0, none⟩ = some (.int .i64 b0.1) ∧ W'.cell? ⟨w.heap.size + 1, 1, none⟩ = some (.string b0.2.1) ∧ W'.cell? ⟨w.heap.size + 1, 2, none⟩ = some (.string b0.2.2) ∧ W'.cell? ⟨w.heap.size + 1, 3, none⟩ = some (.int .i64 b1.1) ∧ W'.cell? ⟨w.heap.size + 1, 4, none⟩ = some (.string b1.2.1) ∧ W'.cell? ⟨w.heap.size + 1, 5, none⟩ = some (.string b1.2.2) ∧ W'.cell? ⟨w.heap.size + 1, 6, none⟩ = some (.int .i64 b2.1) ∧ W'.cell? ⟨w.heap.size + 1, 7, none⟩ = some (.string b2.2.1) ∧ W'.cell? ⟨w.heap.size + 1, 8, none⟩ = some (.string b2.2.2) ∧ Grown w W') v := by
  obtain ⟨h0, h1, h2, h3, h4, h5, h6, h7, h8, h9, h10, h11, h12, h13, h14, h15, h16, h17, hB⟩ := h
  exact ⟨cell_below k.below h0, cell_below k.below h1, cell_below k.below h2, cell_below k.below h3, cell_below k.below h4, cell_below k.below h5, cell_below k.below h6, cell_below k.below h7, cell_below k.below h8, cell_below k.below h9, cell_below k.below h10, cell_below k.below h11, cell_below k.below h12, cell_below k.below h13, cell_below k.below h14, cell_below k.below h15, cell_below k.below h16, cell_below k.below h17, hB.step k⟩
theorem box2G_drew {w u : World} {a0 a1 a2 b0 b1 b2 : TermD} (h : (fun W' => W'.cell? ⟨w.heap.size, 0, none⟩ = some (.int .i64 a0.1) ∧ W'.cell? ⟨w.heap.size, 1, none⟩ = some (.string a0.2.1) ∧ W'.cell? ⟨w.heap.size, 2, none⟩ = some (.string a0.2.2) ∧ W'.cell? ⟨w.heap.size, 3, none⟩ = some (.int .i64 a1.1) ∧ W'.cell? ⟨w.heap.size, 4, none⟩ = some (.string a1.2.1) ∧ W'.cell? ⟨w.heap.size, 5, none⟩ = some (.string a1.2.2) ∧ W'.cell? ⟨w.heap.size, 6, none⟩ = some (.int .i64 a2.1) ∧ W'.cell? ⟨w.heap.size, 7, none⟩ = some (.string a2.2.1) ∧ W'.cell? ⟨w.heap.size, 8, none⟩ = some (.string a2.2.2) ∧ W'.cell? ⟨w.heap.size + 1, 0, none⟩ = some (.int .i64 b0.1) ∧ W'.cell? ⟨w.heap.size + 1, 1, none⟩ = some (.string b0.2.1) ∧ W'.cell? ⟨w.heap.size + 1, 2, none⟩ = some (.string b0.2.2) ∧ W'.cell? ⟨w.heap.size + 1, 3, none⟩ = some (.int .i64 b1.1) ∧ W'.cell? ⟨w.heap.size + 1, 4, none⟩ = some (.string b1.2.1) ∧ W'.cell? ⟨w.heap.size + 1, 5, none⟩ = some (.string b1.2.2) ∧ W'.cell? ⟨w.heap.size + 1, 6, none⟩ = some (.int .i64 b2.1) ∧ W'.cell? ⟨w.heap.size + 1, 7, none⟩ = some (.string b2.2.1) ∧ W'.cell? ⟨w.heap.size + 1, 8, none⟩ = some (.string b2.2.2) ∧ Grown w W') u) : (fun W' => W'.cell? ⟨w.heap.size, 0, none⟩ = some (.int .i64 a0.1) ∧ W'.cell? ⟨w.heap.size, 1, none⟩ = some (.string a0.2.1) ∧ W'.cell? ⟨w.heap.size, 2, none⟩ = some (.string a0.2.2) ∧ W'.cell? ⟨w.heap.size, 3, none⟩ = some (.int .i64 a1.1) ∧ W'.cell? ⟨w.heap.size, 4, none⟩ = some (.string a1.2.1) ∧ W'.cell? ⟨w.heap.size, 5, none⟩ = some (.string a1.2.2) ∧ W'.cell? ⟨w.heap.size, 6, none⟩ = some (.int .i64 a2.1) ∧ W'.cell? ⟨w.heap.size, 7, none⟩ = some (.string a2.2.1) ∧ W'.cell? ⟨w.heap.size, 8, none⟩ = some (.string a2.2.2) ∧ W'.cell? ⟨w.heap.size + 1, 0, none⟩ = some (.int .i64 b0.1) ∧ W'.cell? ⟨w.heap.size + 1, 1, none⟩ = some (.string b0.2.1) ∧ W'.cell? ⟨w.heap.size + 1, 2, none⟩ = some (.string b0.2.2) ∧ W'.cell? ⟨w.heap.size + 1, 3, none⟩ = some (.int .i64 b1.1) ∧ W'.cell? ⟨w.heap.size + 1, 4, none⟩ = some (.string b1.2.1) ∧ W'.cell? ⟨w.heap.size + 1, 5, none⟩ = some (.string b1.2.2) ∧ W'.cell? ⟨w.heap.size + 1, 6, none⟩ = some (.int .i64 b2.1) ∧ W'.cell? ⟨w.heap.size + 1, 7, none⟩ = some (.string b2.2.1) ∧ W'.cell? ⟨w.heap.size + 1, 8, none⟩ = some (.string b2.2.2) ∧ Grown w W') u.drew := by
  obtain ⟨h0, h1, h2, h3, h4, h5, h6, h7, h8, h9, h10, h11, h12, h13, h14, h15, h16, h17, hB⟩ := h
  exact ⟨h0, h1, h2, h3, h4, h5, h6, h7, h8, h9, h10, h11, h12, h13, h14, h15, h16, h17, hB.drew⟩
theorem box2G_grown {w u : World} {a0 a1 a2 b0 b1 b2 : TermD} (h : (fun W' => W'.cell? ⟨w.heap.size, 0, none⟩ = some (.int .i64 a0.1) ∧ W'.cell? ⟨w.heap.size, 1, none⟩ = some (.string a0.2.1) ∧ W'.cell? ⟨w.heap.size, 2, none⟩ = some (.string a0.2.2) ∧ W'.cell? ⟨w.heap.size, 3, none⟩ = some (.int .i64 a1.1) ∧ W'.cell? ⟨w.heap.size, 4, none⟩ = some (.string a1.2.1) ∧ W'.cell? ⟨w.heap.size, 5, none⟩ = some (.string a1.2.2) ∧ W'.cell? ⟨w.heap.size, 6, none⟩ = some (.int .i64 a2.1) ∧ W'.cell? ⟨w.heap.size, 7, none⟩ = some (.string a2.2.1) ∧ W'.cell? ⟨w.heap.size, 8, none⟩ = some (.string a2.2.2) ∧ W'.cell? ⟨w.heap.size + 1, 0, none⟩ = some (.int .i64 b0.1) ∧ W'.cell? ⟨w.heap.size + 1, 1, none⟩ = some (.string b0.2.1) ∧ W'.cell? ⟨w.heap.size + 1, 2, none⟩ = some (.string b0.2.2) ∧ W'.cell? ⟨w.heap.size + 1, 3, none⟩ = some (.int .i64 b1.1) ∧ W'.cell? ⟨w.heap.size + 1, 4, none⟩ = some (.string b1.2.1) ∧ W'.cell? ⟨w.heap.size + 1, 5, none⟩ = some (.string b1.2.2) ∧ W'.cell? ⟨w.heap.size + 1, 6, none⟩ = some (.int .i64 b2.1) ∧ W'.cell? ⟨w.heap.size + 1, 7, none⟩ = some (.string b2.2.1) ∧ W'.cell? ⟨w.heap.size + 1, 8, none⟩ = some (.string b2.2.2) ∧ Grown w W') u) : Grown w u := h.2.2.2.2.2.2.2.2.2.2.2.2.2.2.2.2.2.2


set_option maxRecDepth 100000 in
set_option maxHeartbeats 4000000 in
theorem compareTriplesG_any (a0 a1 a2 b0 b1 b2 : TermD) (w : World) :
    Calls Tryd.prog 15 #[tripleV a0 a1 a2, tripleV b0 b1 b2] w fun e w' => e = .returned (.int .i64 (cmpT (a0, a1, a2) (b0, b1, b2))) ∧ Grown w w' := by
  have M0 := fun W => compareG_any a0 b0 W
  have M1 := fun W => compareG_any a1 b1 W
  have M2 := fun W => compareG_any a2 b2 W
  have HR : Hid (cmpT (a0, a1, a2) (b0, b1, b2) = if cmpD a0 b0 = 0 then (if cmpD a1 b1 = 0 then cmpD a2 b2 else cmpD a1 b1) else cmpD a0 b0) := Lib.hid rfl
  have r0 := Lib.hid (ord_term.range a0 b0)
  have r1 := Lib.hid (ord_term.range a1 b1)
  have r2 := Lib.hid (ord_term.range a2 b2)
  have HS := Lib.hid (box2G_start w a0 a1 a2 b0 b1 b2)
  generalize cmpT (a0, a1, a2) (b0, b1, b2) = R at *
  generalize cmpD a0 b0 = n0 at *
  generalize cmpD a1 b1 = n1 at *
  generalize cmpD a2 b2 = n2 at *
  go_enter Tryd.func15, Tryd.ntmps15
  go_wp2
  refine wp_loop_rounds 4 ?_
  rw [rounds_succ]
  go_wp2_with fail
  have D0 := Lib.hid (box2G_drew HS.out)
  clear HS
  go_region_held3 (fun W' => W'.cell? ⟨w.heap.size, 0, none⟩ = some (.int .i64 a0.1) ∧ W'.cell? ⟨w.heap.size, 1, none⟩ = some (.string a0.2.1) ∧ W'.cell? ⟨w.heap.size, 2, none⟩ = some (.string a0.2.2) ∧ W'.cell? ⟨w.heap.size, 3, none⟩ = some (.int .i64 a1.1) ∧ W'.cell? ⟨w.heap.size, 4, none⟩ = some (.string a1.2.1) ∧ W'.cell? ⟨w.heap.size, 5, none⟩ = some (.string a1.2.2) ∧ W'.cell? ⟨w.heap.size, 6, none⟩ = some (.int .i64 a2.1) ∧ W'.cell? ⟨w.heap.size, 7, none⟩ = some (.string a2.2.1) ∧ W'.cell? ⟨w.heap.size, 8, none⟩ = some (.string a2.2.2) ∧ W'.cell? ⟨w.heap.size + 1, 0, none⟩ = some (.int .i64 b0.1) ∧ W'.cell? ⟨w.heap.size + 1, 1, none⟩ = some (.string b0.2.1) ∧ W'.cell? ⟨w.heap.size + 1, 2, none⟩ = some (.string b0.2.2) ∧ W'.cell? ⟨w.heap.size + 1, 3, none⟩ = some (.int .i64 b1.1) ∧ W'.cell? ⟨w.heap.size + 1, 4, none⟩ = some (.string b1.2.1) ∧ W'.cell? ⟨w.heap.size + 1, 5, none⟩ = some (.string b1.2.2) ∧ W'.cell? ⟨w.heap.size + 1, 6, none⟩ = some (.int .i64 b2.1) ∧ W'.cell? ⟨w.heap.size + 1, 7, none⟩ = some (.string b2.2.1) ∧ W'.cell? ⟨w.heap.size + 1, 8, none⟩ = some (.string b2.2.2) ∧ Grown w W') ((first | assumption | exact D0.out | exact box2G_step (by assumption) (by assumption))) ((go_at_call 11; refine (M0 _).mono ?_; rintro e y0 ⟨rfl, hY0⟩))
  rename_i hHeld
  have H0 := Lib.hid hHeld
  clear hHeld D0
  rcases r0.out with rfl | rfl | rfl
  · go_wp2_with fail
    go_ret
    exact ⟨by rw [HR.out] <;> rfl, box2G_grown H0.out⟩
  rotate_left
  · go_wp2_with fail
    go_ret
    exact ⟨by rw [HR.out] <;> rfl, box2G_grown H0.out⟩
  go_wp2_with fail
  rw [rounds_succ]
  go_wp2_with fail
  have D1 := Lib.hid (box2G_drew H0.out)
  clear H0
  go_region_held3 (fun W' => W'.cell? ⟨w.heap.size, 0, none⟩ = some (.int .i64 a0.1) ∧ W'.cell? ⟨w.heap.size, 1, none⟩ = some (.string a0.2.1) ∧ W'.cell? ⟨w.heap.size, 2, none⟩ = some (.string a0.2.2) ∧ W'.cell? ⟨w.heap.size, 3, none⟩ = some (.int .i64 a1.1) ∧ W'.cell? ⟨w.heap.size, 4, none⟩ = some (.string a1.2.1) ∧ W'.cell? ⟨w.heap.size, 5, none⟩ = some (.string a1.2.2) ∧ W'.cell? ⟨w.heap.size, 6, none⟩ = some (.int .i64 a2.1) ∧ W'.cell? ⟨w.heap.size, 7, none⟩ = some (.string a2.2.1) ∧ W'.cell? ⟨w.heap.size, 8, none⟩ = some (.string a2.2.2) ∧ W'.cell? ⟨w.heap.size + 1, 0, none⟩ = some (.int .i64 b0.1) ∧ W'.cell? ⟨w.heap.size + 1, 1, none⟩ = some (.string b0.2.1) ∧ W'.cell? ⟨w.heap.size + 1, 2, none⟩ = some (.string b0.2.2) ∧ W'.cell? ⟨w.heap.size + 1, 3, none⟩ = some (.int .i64 b1.1) ∧ W'.cell? ⟨w.heap.size + 1, 4, none⟩ = some (.string b1.2.1) ∧ W'.cell? ⟨w.heap.size + 1, 5, none⟩ = some (.string b1.2.2) ∧ W'.cell? ⟨w.heap.size + 1, 6, none⟩ = some (.int .i64 b2.1) ∧ W'.cell? ⟨w.heap.size + 1, 7, none⟩ = some (.string b2.2.1) ∧ W'.cell? ⟨w.heap.size + 1, 8, none⟩ = some (.string b2.2.2) ∧ Grown w W') ((first | assumption | exact D1.out | exact box2G_step (by assumption) (by assumption))) ((go_at_call 11; refine (M1 _).mono ?_; rintro e y1 ⟨rfl, hY1⟩))
  rename_i hHeld
  have H1 := Lib.hid hHeld
  clear hHeld D1
  rcases r1.out with rfl | rfl | rfl
  · go_wp2_with fail
    go_ret
    exact ⟨by rw [HR.out] <;> rfl, box2G_grown H1.out⟩
  rotate_left
  · go_wp2_with fail
    go_ret
    exact ⟨by rw [HR.out] <;> rfl, box2G_grown H1.out⟩
  go_wp2_with fail
  rw [rounds_succ]
  go_wp2_with fail
  have D2 := Lib.hid (box2G_drew H1.out)
  clear H1
  go_region_held3 (fun W' => W'.cell? ⟨w.heap.size, 0, none⟩ = some (.int .i64 a0.1) ∧ W'.cell? ⟨w.heap.size, 1, none⟩ = some (.string a0.2.1) ∧ W'.cell? ⟨w.heap.size, 2, none⟩ = some (.string a0.2.2) ∧ W'.cell? ⟨w.heap.size, 3, none⟩ = some (.int .i64 a1.1) ∧ W'.cell? ⟨w.heap.size, 4, none⟩ = some (.string a1.2.1) ∧ W'.cell? ⟨w.heap.size, 5, none⟩ = some (.string a1.2.2) ∧ W'.cell? ⟨w.heap.size, 6, none⟩ = some (.int .i64 a2.1) ∧ W'.cell? ⟨w.heap.size, 7, none⟩ = some (.string a2.2.1) ∧ W'.cell? ⟨w.heap.size, 8, none⟩ = some (.string a2.2.2) ∧ W'.cell? ⟨w.heap.size + 1, 0, none⟩ = some (.int .i64 b0.1) ∧ W'.cell? ⟨w.heap.size + 1, 1, none⟩ = some (.string b0.2.1) ∧ W'.cell? ⟨w.heap.size + 1, 2, none⟩ = some (.string b0.2.2) ∧ W'.cell? ⟨w.heap.size + 1, 3, none⟩ = some (.int .i64 b1.1) ∧ W'.cell? ⟨w.heap.size + 1, 4, none⟩ = some (.string b1.2.1) ∧ W'.cell? ⟨w.heap.size + 1, 5, none⟩ = some (.string b1.2.2) ∧ W'.cell? ⟨w.heap.size + 1, 6, none⟩ = some (.int .i64 b2.1) ∧ W'.cell? ⟨w.heap.size + 1, 7, none⟩ = some (.string b2.2.1) ∧ W'.cell? ⟨w.heap.size + 1, 8, none⟩ = some (.string b2.2.2) ∧ Grown w W') ((first | assumption | exact D2.out | exact box2G_step (by assumption) (by assumption))) ((go_at_call 11; refine (M2 _).mono ?_; rintro e y2 ⟨rfl, hY2⟩))
  rename_i hHeld
  have H2 := Lib.hid hHeld
  clear hHeld D2
  rcases r2.out with rfl | rfl | rfl
  · go_wp2_with fail
    go_ret
    exact ⟨by rw [HR.out] <;> rfl, box2G_grown H2.out⟩
  rotate_left
  · go_wp2_with fail
    go_ret
    exact ⟨by rw [HR.out] <;> rfl, box2G_grown H2.out⟩
  go_wp2_with fail
  rw [rounds_succ]
  go_wp2_with fail
  go_ret
  exact ⟨by rw [HR.out] <;> rfl, box2G_grown H2.out⟩
end Go.Proofs.YtjpppfcbhkbbpaaDoor
