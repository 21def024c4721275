/-
  WHAT THE PROOF STANDS ON, a part of it: Compare, CompareG.
-/
import Derived.Test.YtlkiigoblkfkpaaGreatDoorC9
import Derived.Test.YtlkiigoblkfkpaaGreatDoorC2
import Derived.Test.YtlkiigoblkfkpaaGreatDoorC12
import Derived.Deep.RegionHeld3
import Derived.Deep.RegionWith
import Derived.Sort.Grow
import Derived.Deep.Draws
/-
  CONTRACTS OF Compare, Less, CompareTriples. Written by tools/gencompare.py.
-/

namespace Go.Proofs.YtlkiigoblkfkpaaGreatDoor
open Go.RowKit
open Utf Term
set_option linter.unusedVariables false
set_option linter.unusedSimpArgs false

theorem cmpD_kind {k k' : Int} (h : k ≠ k') (t x t' x' : ByteArray) : cmpD (k, t, x) (k', t', x') = cmpI k k' := by
  have : cmpI k k' ≠ 0 := fun e => h (ord_int.of_eq e)
  unfold cmpD Term.Ord.lex
  rw [if_neg this]
theorem cmpD_same (k : Int) (t x t' x' : ByteArray) : cmpD (k, t, x) (k, t', x') = if cmpB t t' = 0 then cmpB x x' else cmpB t t' := by
  unfold cmpD Term.Ord.lex
  rw [if_pos (ord_int.refl _)]

theorem isNaN_any (k : Int) (w : World) : Calls Tryz.prog 98 #[.int .i64 k] w fun e w' => e = .returned (.bool false) ∧ w = w' := by
  go_enter Tryz.func98, Tryz.ntmps98
  go_wp2
  go_ret
  simp

theorem cmpKind_any (k k' : Int) (w : World) : Calls Tryz.prog 81 #[.int .i64 k, .int .i64 k'] w fun e w' => e = .returned (.int .i64 (cmpI k k')) ∧ w = w' := by
  by_cases h1 : k < k'
  · have HR : Hid (cmpI k k' = -1) := Lib.hid (by unfold cmpI; rw [if_pos h1])
    have e1 : decide (k < k') = true := by simpa using h1
    generalize cmpI k k' = R at *
    clear h1
    go_enter Tryz.func81, Tryz.ntmps81
    go_wp2_with (go_at_call 98; refine (isNaN_any _ _).mono ?_; rintro e w' ⟨rfl, rfl⟩)
    go_ret
    exact ⟨by rw [HR.out] <;> rfl, rfl⟩
  · have e1 : decide (k < k') = false := by simpa using h1
    by_cases h2 : k' < k
    · have HR : Hid (cmpI k k' = 1) := Lib.hid (by unfold cmpI; rw [if_neg h1, if_pos h2])
      have e2 : decide (k' < k) = true := by simpa using h2
      generalize cmpI k k' = R at *
      clear h1 h2
      go_enter Tryz.func81, Tryz.ntmps81
      go_wp2_with (go_at_call 98; refine (isNaN_any _ _).mono ?_; rintro e w' ⟨rfl, rfl⟩)
      go_ret
      exact ⟨by rw [HR.out] <;> rfl, rfl⟩
    · have HR : Hid (cmpI k k' = 0) := Lib.hid (by unfold cmpI; rw [if_neg h1, if_neg h2])
      have e2 : decide (k' < k) = false := by simpa using h2
      generalize cmpI k k' = R at *
      clear h1 h2
      go_enter Tryz.func81, Tryz.ntmps81
      go_wp2_with (go_at_call 98; refine (isNaN_any _ _).mono ?_; rintro e w' ⟨rfl, rfl⟩)
      go_ret
      exact ⟨by rw [HR.out] <;> rfl, rfl⟩

theorem cmpText_any (t t' : ByteArray) (w : World) : Calls Tryz.prog 82 #[.string t, .string t'] w fun e w' => e = .returned (.int .i64 (cmpB t t')) ∧ w = w' :=
  (Tryz.strings_Compare t t' w).mono fun e w' h => ⟨h.1, h.2.symm⟩

end Go.Proofs.YtlkiigoblkfkpaaGreatDoor

/-
  CONTRACTS OF Compare, CompareTriples THAT TELL THE WORLD: blocks and draws alone are new. Written by tools/gencompareg.py.
-/

namespace Go.Proofs.YtlkiigoblkfkpaaGreatDoor
open Go.RowKit
open Utf Term
set_option linter.unusedVariables false
set_option linter.unusedSimpArgs false

/-- Blocks and draws alone are new. -/
def Grown (w w' : World) : Prop := ∃ q os, w' = Sort.grow (w.drewN q) os
theorem Grown.new (w : World) (o : Obj) : Grown w (w.alloc o) := ⟨0, #[o], by rw [Sort.alloc_eq_grow]; rfl⟩
theorem Grown.drew {w u : World} (h : Grown w u) : Grown w u.drew := by
  obtain ⟨q, os, rfl⟩ := h
  exact ⟨q + 1, os, rfl⟩
theorem Grown.step {w u v : World} (h : Grown w u) (k : Grown u v) : Grown w v := by
  obtain ⟨q, os, rfl⟩ := h
  obtain ⟨q', os', rfl⟩ := k
  refine ⟨q + q', os ++ os', ?_⟩
  have e : (Sort.grow (w.drewN q) os).drewN q' = Sort.grow (w.drewN (q + q')) os := by
    unfold Sort.grow World.drewN
    simp [Nat.add_assoc]
  rw [e, Sort.grow_grow]
theorem Grown.below {w u : World} (h : Grown w u) : Below w.heap.size w u := by
  obtain ⟨q, os, rfl⟩ := h
  refine ⟨rfl, rfl, rfl, ?_, ?_⟩
  · show w.heap.size ≤ (w.heap ++ os).size
    simp
  · intro k hk
    show (w.heap ++ os)[k]? = w.heap[k]?
    rw [Array.getElem?_append_left hk]

set_option maxRecDepth 100000 in
set_option maxHeartbeats 1000000 in
theorem compareG_any (a b : TermD) (w : World) :
    Calls Tryz.prog 70 #[termD a, termD b] w fun e w' => e = .returned (.int .i64 (cmpD a b)) ∧ Grown w w' := by
  obtain ⟨k, t, x⟩ := a
  obtain ⟨k', t', x'⟩ := b
  have HB : Hid (Grown w ((w.alloc (.cells #[.int .i64 k, .string t, .string x] 35)).alloc (.cells #[.int .i64 k', .string t', .string x'] 35))) := Lib.hid ((Grown.new _ _).step (Grown.new _ _))
  by_cases hk : k = k'
  · subst hk
    have HR := Lib.hid (cmpD_same k t x t' x')
    have MT := fun W => cmpText_any t t' W
    have MX := fun W => cmpText_any x x' W
    have hr := ord_text.range t t'
    generalize cmpD (k, t, x) (k, t', x') = R at *
    generalize cmpB x x' = Nx at *
    generalize cmpB t t' = Nt at *
    rcases hr with rfl | rfl | rfl
    · go_enter Tryz.func70, Tryz.ntmps70
      go_wp2_with fail
      refine (MT _).mono ?_
      rintro e w2 ⟨rfl, rfl⟩
      go_wp2_with fail
      go_ret
      exact ⟨by rw [HR.out] <;> rfl, HB.out⟩
    · go_enter Tryz.func70, Tryz.ntmps70
      go_wp2_with fail
      refine (MT _).mono ?_
      rintro e w2 ⟨rfl, rfl⟩
      go_wp2_with fail
      refine (MX _).mono ?_
      rintro e w2 ⟨rfl, rfl⟩
      go_wp2_with fail
      go_ret
      exact ⟨by rw [HR.out] <;> rfl, HB.out⟩
    · go_enter Tryz.func70, Tryz.ntmps70
      go_wp2_with fail
      refine (MT _).mono ?_
      rintro e w2 ⟨rfl, rfl⟩
      go_wp2_with fail
      go_ret
      exact ⟨by rw [HR.out] <;> rfl, HB.out⟩
  · have HR := Lib.hid (cmpD_kind hk t x t' x')
    have e1 : (k == k') = false := by simpa using hk
    have MK := fun W => cmpKind_any k k' W
    generalize cmpD (k, t, x) (k', t', x') = R at *
    generalize cmpI k k' = Nk at *
    go_enter Tryz.func70, Tryz.ntmps70
    go_wp2_with fail
    refine (MK _).mono ?_
    rintro e w2 ⟨rfl, rfl⟩
    go_wp2_with fail
    go_ret
    exact ⟨by rw [HR.out] <;> rfl, HB.out⟩

end Go.Proofs.YtlkiigoblkfkpaaGreatDoor

