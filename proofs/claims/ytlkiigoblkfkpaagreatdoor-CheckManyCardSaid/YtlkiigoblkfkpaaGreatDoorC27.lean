/-
  WHAT THE PROOF STANDS ON, a part of it: SliceK, CkGen, CkSlot, CkCmpF, CkParts.
-/
import Derived.Test.YtlkiigoblkfkpaaGreatDoorChecked
import Derived.RowKit3
import Derived.Below
import Derived.ProofKit
import Derived.OpenShut
import Derived.ShutString
import Derived.ChangeOld
import Derived.Deep.Slices
import Derived.Test.YtlkiigoblkfkpaaGreatDoorC16
import Derived.Test.YtlkiigoblkfkpaaGreatDoorC25
import Derived.Test.YtlkiigoblkfkpaaGreatDoorC8
import Derived.Test.YtlkiigoblkfkpaaGreatDoorC23
import Derived.Test.YtlkiigoblkfkpaaGreatDoorC3
import Derived.Deep.MidRow
import Derived.Deep.RegionHeld3
import Derived.Deep.RegionWith
import Derived.Deep.Cut
import Derived.Deep.DeepCutAuto
import Derived.BigQuiet
import Derived.Deep.QuietTactic
/-
  SLICES OF ELEMENTS OF k CELLS, AS ARGUMENTS: opened to their cells.
-/

namespace Go.Proofs.YtlkiigoblkfkpaaGreatDoor
open Go.ChangeShapes Go.WideShapes Go.ChangeAt Go.RowKit Go.Deep
set_option linter.unusedVariables false
set_option maxRecDepth 100000

theorem flat_len {α : Type} (c : α → List Value) (k : Nat) (hc : ∀ x, (c x).length = k) : ∀ l : List α, (l.flatMap c).length = l.length * k
  | [] => by simp
  | x :: l => by rw [List.flatMap_cons, List.length_append, flat_len c k hc l, hc x, List.length_cons, Nat.succ_mul, Nat.add_comm]
theorem flat_get {α : Type} (c : α → List Value) (k : Nat) (hc : ∀ x, (c x).length = k) : ∀ (l : List α) (i j : Nat) (x : α), l[i]? = some x → j < k → (l.flatMap c)[i * k + j]? = (c x)[j]?
  | [], i, j, x, h, _ => by simp at h
  | y :: l, 0, j, x, h, hj => by
    simp only [List.getElem?_cons_zero, Option.some.injEq] at h
    subst h
    rw [List.flatMap_cons, Nat.zero_mul, Nat.zero_add, List.getElem?_append_left (by rw [hc]; exact hj)]
  | y :: l, i + 1, j, x, h, hj => by
    rw [List.getElem?_cons_succ] at h
    rw [List.flatMap_cons, List.getElem?_append_right (by rw [hc, Nat.succ_mul]; omega), hc, ← flat_get c k hc l i j x h hj]
    congr 1
    rw [Nat.succ_mul]
    omega
end Go.Proofs.YtlkiigoblkfkpaaGreatDoor

/-
  WHAT THE WALKS OF CHECK'S ORDER LEAN ON: rows of elements, what is stored in new memory.
-/

namespace Go.Proofs.YtlkiigoblkfkpaaGreatDoor
open Go.RowKit
open Utf Term
set_option linter.unusedVariables false
set_option linter.unusedSimpArgs false

abbrev encSl (s : SlotD) : List Value := (slotC s).toList
abbrev encLi (l : LitD) : List Value := (litC l).toList
/-- A row of elements. -/
def RowE {α : Type} (enc : α → List Value) (W : World) (g o : Nat) (ls : List α) : Prop := ∀ (j : Nat) (u : Value), (ls.flatMap enc)[j]? = some u → W.cell? ⟨g, o + j, none⟩ = some u
theorem RowE.below {α : Type} {enc : α → List Value} {W U : World} {g o : Nat} {ls : List α} (h : RowE enc W g o ls) (k : Below W.heap.size W U) : RowE enc U g o ls := fun j u hu => (k.cell (p := ⟨g, o + j, none⟩) (World.block_lt_of_cell? _ _ (h j u hu))).trans (h j u hu)
theorem RowE.range {α : Type} {enc : α → List Value} {W : World} {g o i : Nat} {ls : List α} {x : α} (h : RowE enc W g o ls) (k : Nat) (hk : ∀ x, (enc x).length = k) (hx : ls[i]? = some x) : W.rangeAt g (o + i * k) (enc x) := fun j v hj => by
  have hlt : j < k := by rw [← hk x]; exact (List.getElem?_eq_some_iff.1 hj).1
  have := h (i * k + j) v (by rw [flat_get enc k hk ls i j x hx hlt]; exact hj)
  rw [Nat.add_assoc]
  exact this
theorem belowR {W U : World} {g o : Nat} {C : List Value} (h : W.rangeAt g o C) (k : Below W.heap.size W U) : U.rangeAt g o C := fun j v hj => (k.cell (p := ⟨g, o + j, none⟩) (World.block_lt_of_cell? _ _ (h j v hj))).trans (h j v hj)
theorem Grown.refl (w : World) : Grown w w := ⟨0, #[], by
  show w = { w with heap := w.heap ++ #[], drawn := w.drawn + 0 }
  simp⟩
/-- What lies below as it was, draws no fewer: blocks and draws alone are new. -/
theorem grown_of {w W : World} (hb : Below w.heap.size w W) (hd : w.drawn ≤ W.drawn) : Grown w W := by
  refine ⟨W.drawn - w.drawn, W.heap.extract w.heap.size W.heap.size, ?_⟩
  have hh : W.heap = w.heap ++ W.heap.extract w.heap.size W.heap.size := by
    apply Array.ext_getElem?
    intro i
    have hs := hb.size
    by_cases hi : i < w.heap.size
    · rw [Array.getElem?_append_left hi]
      exact hb.block i hi
    · rw [Array.getElem?_append_right (by omega), Array.getElem?_extract]
      split
      · rw [show w.heap.size + (i - w.heap.size) = i by omega]
      · rw [Array.getElem?_eq_none (by omega)]
  have h1 := hb.os
  have h2 := hb.tape
  have h3 := hb.output
  have h4 : w.drawn + (W.drawn - w.drawn) = W.drawn := by omega
  show W = World.mk (w.heap ++ W.heap.extract w.heap.size W.heap.size) w.tape (w.drawn + (W.drawn - w.drawn)) w.os w.output
  rw [h4, ← hh, ← h1, ← h2, ← h3]
theorem drawn_setCells (b : Nat) : ∀ (cs : List Value) (o : Nat) (U : World), (U.setCells b o cs).drawn = U.drawn := by
  intro cs
  induction cs with
  | nil => intro o U; rfl
  | cons c cs ih => intro o U; show ((U.setCell _ _).setCells _ _ _).drawn = _; rw [ih]; rfl
/-- An element stored in a new block. -/
theorem ckStored (w : World) (Z : Array Value) (C : List Value) (hz : Z.size = C.length) (t : TypeId) :
    (w.alloc (.cells Z t)).there w.heap.size 0 C.toArray.size ∧ ((w.alloc (.cells Z t)).setCells w.heap.size 0 C.toArray.toList).rangeAt w.heap.size 0 C ∧ Grown w ((w.alloc (.cells Z t)).setCells w.heap.size 0 C.toArray.toList) := by
  have hth : (w.alloc (.cells Z t)).there w.heap.size 0 C.toArray.size := fun j hj => by
    rw [List.size_toArray] at hj
    rw [Nat.zero_add, World.cell?_alloc_at _ _ _ _ rfl]
    refine ⟨by show (Z[j]?).isSome = true; rw [Array.getElem?_eq_getElem (by omega)]; rfl, ?_⟩
    have : (w.alloc (.cells Z t)).heap[w.heap.size]? = some (.cells Z t (0, 0)) := heap_alloc_new w _
    unfold World.frozen?
    simp only
    rw [this]
    simp
  refine ⟨hth, World.rangeAt_setCells_same _ _ _ _ hth, grown_of ?_ ?_⟩
  · have : ∀ (cs : List Value) (o : Nat) (U : World), Below w.heap.size w U → Below w.heap.size w (U.setCells w.heap.size o cs) := by
      intro cs
      induction cs with
      | nil => intro o U h; exact h
      | cons c cs ih => intro o U h; exact ih (o + 1) _ (h.setCell (Nat.le_refl _) _)
    exact this C 0 _ ((Below.refl _ _).alloc (Nat.le_refl _) _)
  · rw [drawn_setCells]
    exact Nat.le_refl _
theorem drop_at {α : Type} {l : List α} {k : Nat} {x : α} (h : l[k]? = some x) : l.drop k = x :: l.drop (k + 1) := by
  obtain ⟨hk, e⟩ := List.getElem?_eq_some_iff.1 h
  rw [List.drop_eq_getElem_cons hk, e]
theorem cmpLs_take {α : Type} {f : α → α → Int} (hf : Term.Ord f) : ∀ (k : Nat) (l l' : List α), l.take k = l'.take k → k ≤ l.length → k ≤ l'.length → cmpLs f l l' = cmpLs f (l.drop k) (l'.drop k)
  | 0, l, l', _, _, _ => by rw [List.drop_zero, List.drop_zero]
  | k + 1, [], l', _, h, _ => by simp at h
  | k + 1, _ :: _, [], _, _, h => by simp at h
  | k + 1, a :: l, b :: l', h, h1, h2 => by
    simp only [List.take_succ_cons, List.cons.injEq] at h
    rw [cmpLs, h.1, if_pos (hf.refl _), List.drop_succ_cons, List.drop_succ_cons]
    exact cmpLs_take hf k l l' h.2 (by simpa using h1) (by simpa using h2)
end Go.Proofs.YtlkiigoblkfkpaaGreatDoor

/-
  CONTRACT OF compareSlots. (Written by tools/genckslot.py.)
-/

namespace Go.Proofs.YtlkiigoblkfkpaaGreatDoor
open Go.RowKit
open Utf Term
set_option linter.unusedVariables false
set_option linter.unusedSimpArgs false

theorem cmpSl_or (a b : SlotD) : cmpSl a b = orI (cmpB a.1 b.1) (cmpD a.2 b.2) := rfl
set_option maxRecDepth 100000 in
set_option maxHeartbeats 4000000 in
theorem ckSlots_any (a b : SlotD) (w : World) :
    Calls Tryz.prog 53 #[.agg (encSl a).toArray, .agg (encSl b).toArray] w fun e w' => e = .returned (.int .i64 (cmpSl a b)) ∧ Grown w w' := by
  have HR := Lib.hid (cmpSl_or a b)
  have HS := Lib.hid (fun W => ckCmpS_any a.1 b.1 W)
  have HT := Lib.hid (fun W => compareG_any a.2 b.2 W)
  obtain ⟨R, hR⟩ : ∃ R, R = cmpSl a b := ⟨_, rfl⟩
  obtain ⟨c1, hc1⟩ : ∃ c, c = cmpB a.1 b.1 := ⟨_, rfl⟩
  obtain ⟨c2, hc2⟩ : ∃ c, c = cmpD a.2 b.2 := ⟨_, rfl⟩
  rw [← hR, ← hc1, ← hc2] at HR
  rw [← hc1] at HS
  rw [← hc2] at HT
  rw [← hR]
  obtain ⟨v, k, t, x⟩ := a
  obtain ⟨v', k', t', x'⟩ := b
  dsimp only at HS HT
  have HO : Hid (∀ U : World, Calls Tryz.prog 55 #[.slice (some ⟨U.heap.size, 0, none⟩) 2 2] (U.alloc (.cells #[.int .i64 c1, .int .i64 c2] 3)) fun e w' => e = .returned (.int .i64 R) ∧ U.alloc (.cells #[.int .i64 c1, .int .i64 c2] 3) = w') := Lib.hid (fun U => by
    rw [HR.out]
    have d := heap_alloc_new U (.cells #[.int .i64 c1, .int .i64 c2] 3)
    exact ckOr_any c1 c2 _ 2 _ (cell_in d rfl) (cell_in d rfl))
  have d1 := heap_alloc_new w (.cells #[.string v, .int .i64 k, .string t, .string x] 37)
  have s1 : (w.alloc (.cells #[.string v, .int .i64 k, .string t, .string x] 37)).heap.size = w.heap.size + 1 := World.size_alloc _ _
  have d2 := heap_alloc_new (w.alloc (.cells #[.string v, .int .i64 k, .string t, .string x] 37)) (.cells #[.string v', .int .i64 k', .string t', .string x'] 37)
  have d3 := (Below.heap_alloc (w.alloc (.cells #[.string v, .int .i64 k, .string t, .string x] 37)) (.cells #[.string v', .int .i64 k', .string t', .string x'] 37) w.heap.size (by rw [s1]; omega)).trans d1
  have hG := (Grown.new w (.cells #[.string v, .int .i64 k, .string t, .string x] 37)).step (Grown.new _ (.cells #[.string v', .int .i64 k', .string t', .string x'] 37))
  rw [s1] at d2
  obtain ⟨n0, hn0⟩ : ∃ n0, n0 = w.heap.size := ⟨_, rfl⟩
  obtain ⟨W, hW⟩ : ∃ W, W = (w.alloc (.cells #[.string v, .int .i64 k, .string t, .string x] 37)).alloc (.cells #[.string v', .int .i64 k', .string t', .string x'] 37) := ⟨_, rfl⟩
  rw [← hW] at d2 d3 hG
  rw [← hn0] at d2 d3
  have HX : Hid (∀ U, Grown W U → U.cell? ⟨n0, 0, none⟩ = some (.string v) ∧ U.cell? ⟨n0, 1, none⟩ = some (.int .i64 k) ∧ U.cell? ⟨n0, 2, none⟩ = some (.string t) ∧ U.cell? ⟨n0, 3, none⟩ = some (.string x) ∧ U.cell? ⟨n0 + 1, 0, none⟩ = some (.string v') ∧ U.cell? ⟨n0 + 1, 1, none⟩ = some (.int .i64 k') ∧ U.cell? ⟨n0 + 1, 2, none⟩ = some (.string t') ∧ U.cell? ⟨n0 + 1, 3, none⟩ = some (.string x')) := Lib.hid (fun U hU => by
    have a1 := (hU.below.block n0 (Array.getElem?_eq_some_iff.1 d3).1).trans d3
    have a2 := (hU.below.block (n0 + 1) (Array.getElem?_eq_some_iff.1 d2).1).trans d2
    exact ⟨cell_in a1 rfl, cell_in a1 rfl, cell_in a1 rfl, cell_in a1 rfl, cell_in a2 rfl, cell_in a2 rfl, cell_in a2 rfl, cell_in a2 rfl⟩)
  have HG0 := Lib.hid hG
  have HW := Lib.hid hW
  have HN := Lib.hid hn0
  clear hW hn0 d1 d2 d3 s1 hG hR hc1 hc2
  go_enter Tryz.func53, Tryz.ntmps53
  go_upto_region 1 with fail
  rw [← HW.out, ← HN.out]
  refine wp_region_held_drew (S := fun U : World => Grown W U) (by kernel_rfl) ((Grown.refl W).drew) (fun hHeld => ?_)
  refine wpAnyH_take (i := 0) (v := .pointer (some ⟨n0, 0, none⟩)) rfl (by kernel_rfl) (by kernel_rfl) (by kernel_rfl) (fun _ _ _ h => h) (Or.inl ⟨by rfl, fun w hSw => by (try dsimp only at hSw); go_simp⟩) hHeld ?_
  simp only [Act.put, List.setIfInBounds_toArray, List.set_cons_zero, List.set_cons_succ, List.getElem_toArray, List.getElem_cons_succ, List.getElem_cons_zero]
  refine wpAnyH_take (i := 1) (v := .string v) rfl (by kernel_rfl) (by kernel_rfl) (by kernel_rfl) (fun _ _ _ h => h) (Or.inl ⟨by rfl, fun w hSw => by (try dsimp only at hSw); obtain ⟨x0, x1, x2, x3, x4, x5, x6, x7⟩ := HX.out _ hSw; go_simp⟩) hHeld ?_
  simp only [Act.put, List.setIfInBounds_toArray, List.set_cons_zero, List.set_cons_succ, List.getElem_toArray, List.getElem_cons_succ, List.getElem_cons_zero]
  refine wpAnyH_take (i := 2) (v := .pointer (some ⟨n0 + 1, 0, none⟩)) rfl (by kernel_rfl) (by kernel_rfl) (by kernel_rfl) (fun _ _ _ h => h) (Or.inl ⟨by rfl, fun w hSw => by (try dsimp only at hSw); go_simp⟩) hHeld ?_
  simp only [Act.put, List.setIfInBounds_toArray, List.set_cons_zero, List.set_cons_succ, List.getElem_toArray, List.getElem_cons_succ, List.getElem_cons_zero]
  refine wpAnyH_take (i := 3) (v := (.string v')) rfl (by kernel_rfl) (by kernel_rfl) (by kernel_rfl) (fun _ _ _ h => h) (Or.inl ⟨by rfl, fun w hSw => by (try dsimp only at hSw); obtain ⟨x0, x1, x2, x3, x4, x5, x6, x7⟩ := HX.out _ hSw; go_simp⟩) hHeld ?_
  simp only [Act.put, List.setIfInBounds_toArray, List.set_cons_zero, List.set_cons_succ, List.getElem_toArray, List.getElem_cons_succ, List.getElem_cons_zero]
  refine wpAnyH_take (i := 5) (v := .pointer (some ⟨n0, 1, none⟩)) rfl (by kernel_rfl) (by kernel_rfl) (by kernel_rfl) (fun _ _ _ h => h) (Or.inl ⟨by rfl, fun w hSw => by (try dsimp only at hSw); go_simp⟩) hHeld ?_
  simp only [Act.put, List.setIfInBounds_toArray, List.set_cons_zero, List.set_cons_succ, List.getElem_toArray, List.getElem_cons_succ, List.getElem_cons_zero]
  refine wpAnyH_take (i := 6) (v := .agg #[.int .i64 k, .string t, .string x]) rfl (by kernel_rfl) (by kernel_rfl) (by kernel_rfl) (fun _ _ _ h => h) (Or.inl ⟨by rfl, fun w hSw => by (try dsimp only at hSw); obtain ⟨x0, x1, x2, x3, x4, x5, x6, x7⟩ := HX.out _ hSw; go_simp⟩) hHeld ?_
  simp only [Act.put, List.setIfInBounds_toArray, List.set_cons_zero, List.set_cons_succ, List.getElem_toArray, List.getElem_cons_succ, List.getElem_cons_zero]
  refine wpAnyH_take (i := 7) (v := .pointer (some ⟨n0 + 1, 1, none⟩)) rfl (by kernel_rfl) (by kernel_rfl) (by kernel_rfl) (fun _ _ _ h => h) (Or.inl ⟨by rfl, fun w hSw => by (try dsimp only at hSw); go_simp⟩) hHeld ?_
  simp only [Act.put, List.setIfInBounds_toArray, List.set_cons_zero, List.set_cons_succ, List.getElem_toArray, List.getElem_cons_succ, List.getElem_cons_zero]
  refine wpAnyH_take (i := 8) (v := (.agg #[.int .i64 k', .string t', .string x'])) rfl (by kernel_rfl) (by kernel_rfl) (by kernel_rfl) (fun _ _ _ h => h) (Or.inl ⟨by rfl, fun w hSw => by (try dsimp only at hSw); obtain ⟨x0, x1, x2, x3, x4, x5, x6, x7⟩ := HX.out _ hSw; go_simp⟩) hHeld ?_
  simp only [Act.put, List.setIfInBounds_toArray, List.set_cons_zero, List.set_cons_succ, List.getElem_toArray, List.getElem_cons_succ, List.getElem_cons_zero]
  refine wpAnyH_ready (rs := [4]) (by kernel_rfl) (by simp) ?_
  refine AllReadyH.cons rfl (fun K hK => ?_) AllReadyH.nil
  go_simp
  refine (HS.out _).mono ?_
  rintro e ua ⟨rfl, rfl⟩
  dsimp only
  have hGwa := ((Grown.refl W).drew)
  refine hK.out _ _ hGwa (fun hHeld => ?_)
  clear hK K
  (try simp only [Act.put, List.setIfInBounds_toArray, List.set_cons_zero, List.set_cons_succ, List.getElem_toArray, List.getElem_cons_succ, List.getElem_cons_zero])
  refine wpAnyH_ready (rs := [9]) (by kernel_rfl) (by simp) ?_
  refine AllReadyH.cons rfl (fun K hK => ?_) AllReadyH.nil
  go_simp
  refine (HT.out _).mono ?_
  rintro e ub ⟨rfl, hGb⟩
  dsimp only
  have hGwb := hGwa.step hGb
  refine hK.out _ _ hGwb (fun hHeld => ?_)
  clear hK K hGb
  (try simp only [Act.put, List.setIfInBounds_toArray, List.set_cons_zero, List.set_cons_succ, List.getElem_toArray, List.getElem_cons_succ, List.getElem_cons_zero])
  refine wpAnyH_ready (rs := [10]) (by kernel_rfl) (by simp) ?_
  refine AllReadyH.cons rfl (fun K hK => ?_) AllReadyH.nil
  go_simp
  refine hK.out _ _ (hGwb.step (Grown.new _ _)) (fun hHeld => ?_)
  clear hK K
  (try simp only [Act.put, List.setIfInBounds_toArray, List.set_cons_zero, List.set_cons_succ, List.getElem_toArray, List.getElem_cons_succ, List.getElem_cons_zero])
  refine wpAnyH_ready (rs := [11]) (by kernel_rfl) (by simp) ?_
  refine AllReadyH.cons rfl (fun K hK => ?_) AllReadyH.nil
  go_simp
  refine (HO.out _).mono ?_
  rintro e u9 ⟨rfl, rfl⟩
  dsimp only
  refine hK.out _ _ (hGwb.step (Grown.new _ _)) (fun hHeld => ?_)
  clear hK K
  (try simp only [Act.put, List.setIfInBounds_toArray, List.set_cons_zero, List.set_cons_succ, List.getElem_toArray, List.getElem_cons_succ, List.getElem_cons_zero])
  refine wpAnyH_take (i := 12) (v := .int .i64 R) rfl (by kernel_rfl) (by kernel_rfl) (by kernel_rfl) (fun _ _ _ h => h) (Or.inl ⟨by rfl, fun w hSw => by (try dsimp only at hSw); go_simp⟩) hHeld ?_
  simp only [Act.put, List.setIfInBounds_toArray, List.set_cons_zero, List.set_cons_succ, List.getElem_toArray, List.getElem_cons_succ, List.getElem_cons_zero]
  refine wpAnyH_done (by kernel_rfl) ?_ _
  clear hHeld
  clear hGwa
  go_wp2
  go_ret
  exact ⟨rfl, HG0.out.step (hGwb.step (Grown.new _ _))⟩
end Go.Proofs.YtlkiigoblkfkpaaGreatDoor

/-
  CONTRACTS OF slices.CompareFunc AT SLOTS AND AT PARTS. (Written by tools/genckcmp.py.)
-/

namespace Go.Proofs.YtlkiigoblkfkpaaGreatDoor
open Go.RowKit
open Utf Term
set_option linter.unusedVariables false
set_option linter.unusedSimpArgs false
theorem ckCmpFS_any_one (s : SlotD) : (encSl s).toArray.all (·.oneCell') = true := by simp [encSl, Value.oneCell']

set_option maxRecDepth 100000 in
set_option maxHeartbeats 8000000 in
theorem ckCmpFS_any (p q : Option Addr) (c c' : Nat) (l l' : List SlotD) (hl : l.length ≤ 1000000000) (hl' : l'.length ≤ 1000000000) (w : World) (hp : 0 < l.length → ∃ g o, p = some ⟨g, o, none⟩ ∧ RowE encSl w g o l) (hq : 0 < l'.length → ∃ g o, q = some ⟨g, o, none⟩ ∧ RowE encSl w g o l') :
    Calls Tryz.prog 52 #[.slice p l.length c, .slice q l'.length c', .func (.func 53) #[] #[]] w fun e w' => e = .returned (.int .i64 (cmpLs cmpSl l l')) ∧ Grown w w' := by
  have HP := Lib.hid hp
  have HQ := Lib.hid hq
  have HCmp := Lib.hid ckSlots_any
  have HR : Hid (∀ k, k ≤ l.length → k ≤ l'.length → l.take k = l'.take k → cmpLs cmpSl l l' = cmpLs cmpSl (l.drop k) (l'.drop k)) := Lib.hid (fun k h1 h2 h3 => cmpLs_take ord_slot k l l' h3 h1 h2)
  have HLl : Hid (∀ k, k < l.length → ∃ x, l[k]? = some x) := Lib.hid (fun k h => ⟨_, List.getElem?_eq_getElem h⟩)
  have HLm : Hid (∀ k, k < l'.length → ∃ x, l'[k]? = some x) := Lib.hid (fun k h => ⟨_, List.getElem?_eq_getElem h⟩)
  obtain ⟨R, hR⟩ : ∃ R, R = cmpLs cmpSl l l' := ⟨_, rfl⟩
  obtain ⟨n, hn⟩ : ∃ n, n = l.length := ⟨_, rfl⟩
  obtain ⟨m, hm⟩ : ∃ m, m = l'.length := ⟨_, rfl⟩
  rw [← hR] at HR ⊢
  rw [← hn] at HP HR HLl hl ⊢
  rw [← hm] at HQ HR HLm hl' ⊢
  have HN := Lib.hid hn
  have HM := Lib.hid hm
  clear hp hq hR hn hm
  go_enter Tryz.func52, Tryz.ntmps52
  go_wp2
  go_loopg [13] n (fun gg i wr => ∃ k : Nat, k ≤ n ∧ k ≤ m ∧ n - k ≤ gg ∧ i = .int .i64 (k : Int) ∧ l.take k = l'.take k ∧ Grown w wr)
  case atStart => exact ⟨0, Nat.zero_le _, Nat.zero_le _, by omega, rfl, rfl, Grown.refl _⟩
  case round =>
    obtain ⟨k, hk, hkm, hgg, rfl, htk, hbe⟩ := hrel
    have HTk := Lib.hid htk
    have HBe := Lib.hid hbe
    have HRk := Lib.hid (HR.out k hk hkm htk)
    clear htk hbe
    by_cases hlt : k < n
    · obtain ⟨x, hx⟩ := HLl.out k hlt
      obtain ⟨g, o, rfl, hr⟩ := HP.out (by omega)
      have HX := Lib.hid hx
      have HC1 := Lib.hid (belowR (hr.range 4 (fun _ => rfl) hx) HBe.out.below)
      obtain ⟨C1, hC1⟩ : ∃ C, C = encSl x := ⟨_, rfl⟩
      have hlen1 : C1.length = 4 := by rw [hC1]; rfl
      have hone1 : C1.toArray.all (·.oneCell') = true := by rw [hC1]; exact ckCmpFS_any_one x
      have hs1 : (Tryz.prog.info? 37).map (·.size) = some C1.length := by rw [hlen1]; kernel_rfl
      have hsa1 : (Tryz.prog.info? 37).map (·.size) = some C1.toArray.size := by rw [List.size_toArray, hlen1]; kernel_rfl
      have hst1 := ckStored wr (slotC zSl) C1 (by rw [hlen1]; rfl) 37
      have HS1 := Lib.hid hs1
      have HSa1 := Lib.hid hsa1
      have HO1 := Lib.hid hone1
      have HT1 := Lib.hid hst1.1
      have HG1 := Lib.hid hst1.2.2
      have HR1 := Lib.hid hst1.2.1
      have HE1 := Lib.hid hC1
      rw [← hC1] at HC1
      clear hx hr hC1 hlen1 hone1 hs1 hsa1 hst1
      go_upto_region 4 with (first
        | (refine wpList_load_mid rfl 37 (.tmp 16) rfl g (o + k * 4) rfl C1 _ HC1.out Tryz.underlying37 rfl HS1.out ?_)
        | (refine wpList_store_mid rfl 37 (.tmp 8) (.tmp 17) rfl wr.heap.size 0 C1.toArray rfl rfl HT1.out HSa1.out HO1.out ?_))
      obtain ⟨n1, hn1⟩ : ∃ n1, n1 = wr.heap.size := ⟨_, rfl⟩
      rw [← hn1] at HR1 HG1 ⊢
      generalize World.setCells (World.alloc wr (Obj.cells _ _)) n1 0 C1.toArray.toList = W2 at *
      have hBe2 := HBe.out.step HG1.out
      have HBe2 := Lib.hid hBe2
      have HN1 := Lib.hid hn1
      clear HT1 HC1 hn1 hBe2
      by_cases hkm2 : k < m
      · obtain ⟨y, hy⟩ := HLm.out k hkm2
        obtain ⟨g', o', rfl, hr⟩ := HQ.out (by omega)
        have HY := Lib.hid hy
        have HC2 := Lib.hid (belowR (hr.range 4 (fun _ => rfl) hy) HBe2.out.below)
        obtain ⟨C2, hC2⟩ : ∃ C, C = encSl y := ⟨_, rfl⟩
        have hlen2 : C2.length = 4 := by rw [hC2]; rfl
        have hone2 : C2.toArray.all (·.oneCell') = true := by rw [hC2]; exact ckCmpFS_any_one y
        have hs2 : (Tryz.prog.info? 37).map (·.size) = some C2.length := by rw [hlen2]; kernel_rfl
        have hsa2 : (Tryz.prog.info? 37).map (·.size) = some C2.toArray.size := by rw [List.size_toArray, hlen2]; kernel_rfl
        have hst2 := ckStored W2 (slotC zSl) C2 (by rw [hlen2]; rfl) 37
        have HS2 := Lib.hid hs2
        have HSa2 := Lib.hid hsa2
        have HO2 := Lib.hid hone2
        have HT2 := Lib.hid hst2.1
        have HG2 := Lib.hid hst2.2.2
        have HR2 := Lib.hid hst2.2.1
        have HE2 := Lib.hid hC2
        rw [← hC2] at HC2
        have e1 : decide ((k : Int) ≥ (m : Int)) = false := by simp; omega
        have e2 : decide ((m : Int) ≤ (k : Int)) = false := by simp; omega
        have e3 : decide (m ≤ k) = false := by simp; omega
        clear hy hr hC2 hlen2 hone2 hs2 hsa2 hst2
        go_upto_region 7 with (first
          | (refine wpList_load_mid rfl 37 (.tmp 24) rfl g' (o' + k * 4) rfl C2 _ HC2.out Tryz.underlying37 rfl HS2.out ?_)
          | (refine wpList_store_mid rfl 37 (.tmp 9) (.tmp 25) rfl W2.heap.size 0 C2.toArray rfl rfl HT2.out HSa2.out HO2.out ?_))
        obtain ⟨n2, hn2⟩ : ∃ n2, n2 = W2.heap.size := ⟨_, rfl⟩
        rw [← hn2] at HR2 HG2 ⊢
        generalize World.setCells (World.alloc W2 (Obj.cells _ _)) n2 0 C2.toArray.toList = W3 at *
        have HR13 := Lib.hid (belowR HR1.out HG2.out.below)
        have HCx : Hid (∀ U, Calls Tryz.prog 53 #[.agg C1.toArray, .agg C2.toArray] U fun e w' => e = .returned (.int .i64 (cmpSl x y)) ∧ Grown U w') := Lib.hid (fun U => by
          rw [HE1.out, HE2.out]
          exact HCmp.out x y U)
        have HBe3 := Lib.hid (HBe2.out.step HG2.out)
        have HRk2 : Hid (R = if cmpSl x y = 0 then cmpLs cmpSl (l.drop (k + 1)) (l'.drop (k + 1)) else cmpSl x y) := Lib.hid (by
          rw [HRk.out, drop_at HX.out, drop_at HY.out, cmpLs])
        have HXY : Hid (cmpSl x y = 0 → l.take (k + 1) = l'.take (k + 1)) := Lib.hid (fun h => by
          rw [List.take_add_one, List.take_add_one, HTk.out, HX.out, HY.out, ord_slot.of_eq h])
        clear HT2 HC2 hn2 HR1 HG2 HG1
        generalize cmpSl x y = v at *
        by_cases hv : v = 0
        · have HXY2 := Lib.hid (HXY.out hv)
          subst hv
          clear HXY
          go_wp2_with (first
            | (refine wpList_load_mid rfl 37 (.tmp 8) rfl n1 0 rfl C1 _ HR13.out Tryz.underlying37 rfl HS1.out ?_)
            | (refine wpList_load_mid rfl 37 (.tmp 9) rfl n2 0 rfl C2 _ HR2.out Tryz.underlying37 rfl HS2.out ?_)
            | (go_at_call 53; (with_reducible refine (HCx.out _).mono ?_); rintro e w4 ⟨rfl, hG4⟩; replace hG4 := Lib.hid hG4))
          go_roundg (n - (k + 1))
          case measure => omega
          case rel => exact ⟨k + 1, by omega, by omega, Nat.le_refl _, by go_num, HXY2.out, HBe3.out.step hG4.out⟩
        · have ev : (v != 0) = true := by simp [hv]
          have HRv : Hid (R = v) := Lib.hid (by rw [HRk2.out, if_neg hv])
          clear hv HXY HRk2
          go_wp2_with (first
            | (refine wpList_load_mid rfl 37 (.tmp 8) rfl n1 0 rfl C1 _ HR13.out Tryz.underlying37 rfl HS1.out ?_)
            | (refine wpList_load_mid rfl 37 (.tmp 9) rfl n2 0 rfl C2 _ HR2.out Tryz.underlying37 rfl HS2.out ?_)
            | (go_at_call 53; (with_reducible refine (HCx.out _).mono ?_); rintro e w4 ⟨rfl, hG4⟩; replace hG4 := Lib.hid hG4))
          go_ret
          exact ⟨by rw [HRv.out] <;> rfl, HBe3.out.step hG4.out⟩
      · have e1 : decide ((k : Int) ≥ (m : Int)) = true := by simp; omega
        have e2 : decide ((m : Int) ≤ (k : Int)) = true := by simp; omega
        have e3 : decide (m ≤ k) = true := by simp; omega
        have HRv : Hid (R = 1) := Lib.hid (by
          rw [HRk.out, drop_at HX.out, List.drop_eq_nil_of_le (show l'.length ≤ k by have := HM.out; omega), cmpLs])
        go_wp2
        go_ret
        exact ⟨by rw [HRv.out] <;> rfl, HBe2.out⟩
    · obtain rfl : k = n := by omega
      by_cases hnm : k < m
      · have e1 : decide ((k : Int) < (m : Int)) = true := by simp; omega
        have e2 : decide (k < m) = true := by simp; omega
        obtain ⟨y, hy⟩ := HLm.out k hnm
        have HRv : Hid (R = -1) := Lib.hid (by
          rw [HRk.out, drop_at hy, List.drop_eq_nil_of_le (show l.length ≤ k by have := HN.out; omega), cmpLs])
        clear hy
        go_wp2
        go_ret
        exact ⟨by rw [HRv.out] <;> rfl, HBe.out⟩
      · have e1 : decide ((k : Int) < (m : Int)) = false := by simp; omega
        have e2 : decide (k < m) = false := by simp; omega
        have HRv : Hid (R = 0) := Lib.hid (by
          rw [HRk.out, List.drop_eq_nil_of_le (show l'.length ≤ k by have := HM.out; omega), List.drop_eq_nil_of_le (show l.length ≤ k by have := HN.out; omega), cmpLs])
        go_wp2
        go_ret
        exact ⟨by rw [HRv.out] <;> rfl, HBe.out⟩
end Go.Proofs.YtlkiigoblkfkpaaGreatDoor

/-
  CONTRACTS OF comparePatterns, compareParts. (Written by tools/genckslot.py.)
-/

namespace Go.Proofs.YtlkiigoblkfkpaaGreatDoor
open Go.RowKit
open Utf Term
set_option linter.unusedVariables false
set_option linter.unusedSimpArgs false

abbrev encPa (p : PatD) : List Value := (patC p).toList
theorem row_pat {W : World} {g : Nat} {p : PatD} {t : TypeId} {fr : Nat × Nat} (h : W.heap[g]? = some (.cells (encPa p).toArray t fr)) : RowE encSl W g 0 (patSl p) := fun j u hu => by
  rw [Nat.zero_add]
  exact cell_in h (by rw [List.getElem?_toArray]; exact hu)
set_option maxRecDepth 100000 in
set_option maxHeartbeats 4000000 in
theorem ckPats_any (p q : PatD) (w : World) :
    Calls Tryz.prog 41 #[.agg (encPa p).toArray, .agg (encPa q).toArray] w fun e w' => e = .returned (.int .i64 (cmpPa p q)) ∧ Grown w w' := by
  have d1 := heap_alloc_new w (.cells (encPa p).toArray 40)
  have s1 : (w.alloc (.cells (encPa p).toArray 40)).heap.size = w.heap.size + 1 := World.size_alloc _ _
  have d2 := heap_alloc_new (w.alloc (.cells (encPa p).toArray 40)) (.cells (encPa q).toArray 40)
  have d3 := (Below.heap_alloc (w.alloc (.cells (encPa p).toArray 40)) (.cells (encPa q).toArray 40) w.heap.size (by rw [s1]; omega)).trans d1
  have hG := (Grown.new w (.cells (encPa p).toArray 40)).step (Grown.new _ (.cells (encPa q).toArray 40))
  rw [s1] at d2
  obtain ⟨n0, hn0⟩ : ∃ n0, n0 = w.heap.size := ⟨_, rfl⟩
  obtain ⟨C, hC⟩ : ∃ C, C = (encPa p).toArray := ⟨_, rfl⟩
  obtain ⟨D, hD⟩ : ∃ D, D = (encPa q).toArray := ⟨_, rfl⟩
  rw [← hC, ← hD] at d2 d3 hG
  rw [← hC] at d1 s1
  rw [← hn0] at d2 d3
  have r1 : ∀ U, Grown ((w.alloc (.cells C 40)).alloc (.cells D 40)) U → RowE encSl U n0 0 (patSl p) ∧ RowE encSl U (n0 + 1) 0 (patSl q) := fun U hU => by
    have a1 := (hU.below.block n0 (Array.getElem?_eq_some_iff.1 d3).1).trans d3
    have a2 := (hU.below.block (n0 + 1) (Array.getElem?_eq_some_iff.1 d2).1).trans d2
    rw [hC] at a1
    rw [hD] at a2
    exact ⟨row_pat a1, row_pat a2⟩
  obtain ⟨W, hW⟩ : ∃ W, W = (w.alloc (.cells C 40)).alloc (.cells D 40) := ⟨_, rfl⟩
  rw [← hW] at hG r1
  obtain ⟨R, hR⟩ : ∃ R, R = cmpPa p q := ⟨_, rfl⟩
  have HF : Hid (∀ U, Grown W U → Calls Tryz.prog 52 #[.slice (some ⟨n0, 0, none⟩) 3 3, .slice (some ⟨n0 + 1, 0, none⟩) 3 3, .func (.func 53) #[] #[]] U fun e w' => e = .returned (.int .i64 R) ∧ Grown U w') := Lib.hid (fun U hU => by
    rw [hR, cmpPa_list]
    exact ckCmpFS_any (some ⟨n0, 0, none⟩) (some ⟨n0 + 1, 0, none⟩) 3 3 (patSl p) (patSl q) (by show 3 ≤ 1000000000; decide) (by show 3 ≤ 1000000000; decide) U (fun _ => ⟨n0, 0, rfl, (r1 U hU).1⟩) (fun _ => ⟨n0 + 1, 0, rfl, (r1 U hU).2⟩))
  rw [← hR, ← hC, ← hD]
  have HG0 := Lib.hid hG
  have HW := Lib.hid hW
  have HN := Lib.hid hn0
  clear hW hn0 d1 d2 d3 s1 hG hR hC hD r1
  go_enter Tryz.func41, Tryz.ntmps41
  go_upto_region 1 with fail
  rw [← HW.out, ← HN.out]
  refine wp_region_held_drew (S := fun U : World => Grown W U) (by kernel_rfl) ((Grown.refl W).drew) (fun hHeld => ?_)
  refine wpAnyH_take (i := 0) (v := .slice (some ⟨n0, 0, none⟩) 3 3) rfl (by kernel_rfl) (by kernel_rfl) (by kernel_rfl) (fun _ _ _ h => h) (Or.inl ⟨by rfl, fun w hSw => by (try dsimp only at hSw); go_simp⟩) hHeld ?_
  simp only [Act.put, List.setIfInBounds_toArray, List.set_cons_zero, List.set_cons_succ, List.getElem_toArray, List.getElem_cons_succ, List.getElem_cons_zero]
  refine wpAnyH_take (i := 1) (v := .slice (some ⟨n0 + 1, 0, none⟩) 3 3) rfl (by kernel_rfl) (by kernel_rfl) (by kernel_rfl) (fun _ _ _ h => h) (Or.inl ⟨by rfl, fun w hSw => by (try dsimp only at hSw); go_simp⟩) hHeld ?_
  simp only [Act.put, List.setIfInBounds_toArray, List.set_cons_zero, List.set_cons_succ, List.getElem_toArray, List.getElem_cons_succ, List.getElem_cons_zero]
  refine wpAnyH_ready (rs := [2]) (by kernel_rfl) (by simp) ?_
  refine AllReadyH.cons rfl (fun K hK => ?_) AllReadyH.nil
  go_simp
  refine (HF.out _ (Grown.refl W).drew).mono ?_
  rintro e u ⟨rfl, hGu⟩
  dsimp only
  have hGw := (Grown.refl W).drew.step hGu
  refine hK.out _ _ hGw (fun hHeld => ?_)
  clear hK K
  (try simp only [Act.put, List.setIfInBounds_toArray, List.set_cons_zero, List.set_cons_succ, List.getElem_toArray, List.getElem_cons_succ, List.getElem_cons_zero])
  refine wpAnyH_take (i := 3) (v := .int .i64 R) rfl (by kernel_rfl) (by kernel_rfl) (by kernel_rfl) (fun _ _ _ h => h) (Or.inl ⟨by rfl, fun w hSw => by (try dsimp only at hSw); go_simp⟩) hHeld ?_
  simp only [Act.put, List.setIfInBounds_toArray, List.set_cons_zero, List.set_cons_succ, List.getElem_toArray, List.getElem_cons_succ, List.getElem_cons_zero]
  refine wpAnyH_done (by kernel_rfl) ?_ _
  clear hHeld
  go_wp2
  go_ret
  exact ⟨rfl, HG0.out.step hGw⟩

theorem cmpLi_or (a b : LitD) : cmpLi a b = if cmpI a.1 b.1 = 0 then (if cmpPa a.2.1 b.2.1 = 0 then orI (cmpSl a.2.2.1 b.2.2.1) (cmpSl a.2.2.2 b.2.2.2) else cmpPa a.2.1 b.2.1) else cmpI a.1 b.1 := rfl
/-- A part's cells. -/
structure LitX (W : World) (g : Nat) (l : LitD) : Prop where
  kind : W.cell? ⟨g, 0, none⟩ = some (.int .i64 l.1)
  pat : W.rangeAt g 1 (encPa l.2.1)
  a0 : W.cell? ⟨g, 13, none⟩ = some (.string l.2.2.1.1)
  a1 : W.cell? ⟨g, 14, none⟩ = some (.int .i64 l.2.2.1.2.1)
  a2 : W.cell? ⟨g, 15, none⟩ = some (.string l.2.2.1.2.2.1)
  a3 : W.cell? ⟨g, 16, none⟩ = some (.string l.2.2.1.2.2.2)
  b0 : W.cell? ⟨g, 17, none⟩ = some (.string l.2.2.2.1)
  b1 : W.cell? ⟨g, 18, none⟩ = some (.int .i64 l.2.2.2.2.1)
  b2 : W.cell? ⟨g, 19, none⟩ = some (.string l.2.2.2.2.2.1)
  b3 : W.cell? ⟨g, 20, none⟩ = some (.string l.2.2.2.2.2.2)
theorem litX_of {W : World} {g : Nat} {l : LitD} {t : TypeId} {fr : Nat × Nat} (h : W.heap[g]? = some (.cells (encLi l).toArray t fr)) : LitX W g l where
  kind := cell_in h rfl
  pat := fun j v hj => by
    refine cell_in h ?_
    rw [List.getElem?_toArray]
    have hlt : j < 12 := (List.getElem?_eq_some_iff.1 hj).1
    have e : (encLi l)[1 + j]? = (encPa l.2.1)[j]? := by
      match j, hlt with
      | 0, _ | 1, _ | 2, _ | 3, _ | 4, _ | 5, _ | 6, _ | 7, _ | 8, _ | 9, _ | 10, _ | 11, _ => rfl
    rw [e]
    exact hj
  a0 := cell_in h rfl
  a1 := cell_in h rfl
  a2 := cell_in h rfl
  a3 := cell_in h rfl
  b0 := cell_in h rfl
  b1 := cell_in h rfl
  b2 := cell_in h rfl
  b3 := cell_in h rfl
set_option maxRecDepth 100000 in
set_option maxHeartbeats 8000000 in
theorem ckParts_any (a b : LitD) (w : World) :
    Calls Tryz.prog 43 #[.agg (encLi a).toArray, .agg (encLi b).toArray] w fun e w' => e = .returned (.int .i64 (cmpLi a b)) ∧ Grown w w' := by
  have HR := Lib.hid (cmpLi_or a b)
  have HKd := Lib.hid (fun W => ckCmpK_any a.1 b.1 W)
  have HPt := Lib.hid (fun W => ckPats_any a.2.1 b.2.1 W)
  have HS := Lib.hid (fun W => ckSlots_any a.2.2.1 b.2.2.1 W)
  have HT := Lib.hid (fun W => ckSlots_any a.2.2.2 b.2.2.2 W)
  obtain ⟨R, hR⟩ : ∃ R, R = cmpLi a b := ⟨_, rfl⟩
  obtain ⟨k1, hk1⟩ : ∃ c, c = cmpI a.1 b.1 := ⟨_, rfl⟩
  obtain ⟨k2, hk2⟩ : ∃ c, c = cmpPa a.2.1 b.2.1 := ⟨_, rfl⟩
  obtain ⟨c1, hc1⟩ : ∃ c, c = cmpSl a.2.2.1 b.2.2.1 := ⟨_, rfl⟩
  obtain ⟨c2, hc2⟩ : ∃ c, c = cmpSl a.2.2.2 b.2.2.2 := ⟨_, rfl⟩
  rw [← hR, ← hk1, ← hk2, ← hc1, ← hc2] at HR
  rw [← hk1] at HKd
  rw [← hk2] at HPt
  rw [← hc1] at HS
  rw [← hc2] at HT
  rw [← hR]
  have d1 := heap_alloc_new w (.cells (encLi a).toArray 43)
  have s1 : (w.alloc (.cells (encLi a).toArray 43)).heap.size = w.heap.size + 1 := World.size_alloc _ _
  have d2 := heap_alloc_new (w.alloc (.cells (encLi a).toArray 43)) (.cells (encLi b).toArray 43)
  have d3 := (Below.heap_alloc (w.alloc (.cells (encLi a).toArray 43)) (.cells (encLi b).toArray 43) w.heap.size (by rw [s1]; omega)).trans d1
  have hG := (Grown.new w (.cells (encLi a).toArray 43)).step (Grown.new _ (.cells (encLi b).toArray 43))
  rw [s1] at d2
  obtain ⟨n0, hn0⟩ : ∃ n0, n0 = w.heap.size := ⟨_, rfl⟩
  obtain ⟨C, hC⟩ : ∃ C, C = (encLi a).toArray := ⟨_, rfl⟩
  obtain ⟨D, hD⟩ : ∃ D, D = (encLi b).toArray := ⟨_, rfl⟩
  rw [← hC, ← hD] at d2 d3 hG
  rw [← hn0] at d2 d3
  have HX : Hid (∀ U, Grown ((w.alloc (.cells C 43)).alloc (.cells D 43)) U → LitX U n0 a ∧ LitX U (n0 + 1) b) := Lib.hid (fun U hU => by
    have a1 := (hU.below.block n0 (Array.getElem?_eq_some_iff.1 d3).1).trans d3
    have a2 := (hU.below.block (n0 + 1) (Array.getElem?_eq_some_iff.1 d2).1).trans d2
    rw [hC] at a1
    rw [hD] at a2
    exact ⟨litX_of a1, litX_of a2⟩)
  obtain ⟨W, hW⟩ : ∃ W, W = (w.alloc (.cells C 43)).alloc (.cells D 43) := ⟨_, rfl⟩
  rw [← hW] at hG HX
  rw [← hC, ← hD]
  obtain ⟨ka, pa, xa, ya⟩ := a
  obtain ⟨kb, pb, xb, yb⟩ := b
  obtain ⟨v, k, t, x⟩ := xa
  obtain ⟨v', k', t', x'⟩ := xb
  obtain ⟨u, l, s, y⟩ := ya
  obtain ⟨u', l', s', y'⟩ := yb
  dsimp only at HKd HPt HS HT
  have HO : Hid (∀ U : World, Calls Tryz.prog 55 #[.slice (some ⟨U.heap.size, 0, none⟩) 2 2] (U.alloc (.cells #[.int .i64 c1, .int .i64 c2] 3)) fun e w' => e = .returned (.int .i64 (orI c1 c2)) ∧ U.alloc (.cells #[.int .i64 c1, .int .i64 c2] 3) = w') := Lib.hid (fun U => by
    have d := heap_alloc_new U (.cells #[.int .i64 c1, .int .i64 c2] 3)
    exact ckOr_any c1 c2 _ 2 _ (cell_in d rfl) (cell_in d rfl))
  have HG0 := Lib.hid hG
  have HW := Lib.hid hW
  have HN := Lib.hid hn0
  obtain ⟨hxa, hxb⟩ := HX.out W (Grown.refl W)
  have k1c := hxa.kind
  have k2c := hxb.kind
  have HP1 := Lib.hid hxa.pat
  have HP2 := Lib.hid hxb.pat
  have HI : Hid ((Tryz.prog.info? 40).map (·.size) = some (encPa pa).length) := Lib.hid (by show _ = some 12; kernel_rfl)
  have HI2 : Hid ((Tryz.prog.info? 40).map (·.size) = some (encPa pb).length) := Lib.hid (by show _ = some 12; kernel_rfl)
  dsimp only at k1c k2c HP1 HP2
  generalize hEa : encPa pa = Ea at *
  generalize hEb : encPa pb = Eb at *
  clear hW hn0 d1 d2 d3 s1 hG hR hk1 hk2 hc1 hc2 hC hD hxa hxb hEa hEb
  by_cases h1 : k1 = 0
  · have e1 : (k1 != 0) = false := by simp [h1]
    rw [if_pos h1] at HR
    subst h1
    by_cases h2 : k2 = 0
    · rw [if_pos h2] at HR
      have e2 : (k2 != 0) = false := by simp [h2]
      subst h2
      go_enter Tryz.func43, Tryz.ntmps43
      go_upto_region 1 with fail
      rw [← HW.out, ← HN.out]
      go_upto_region 7 with (first
        | (refine wpList_load_mid rfl 40 (.tmp 15) rfl n0 1 rfl Ea _ HP1.out Tryz.underlying40 rfl HI.out ?_)
        | (refine wpList_load_mid rfl 40 (.tmp 17) rfl (n0 + 1) 1 rfl Eb _ HP2.out Tryz.underlying40 rfl HI2.out ?_)
        | (go_at_call 54; (with_reducible refine (HKd.out _).mono ?_); rintro e w' ⟨rfl, rfl⟩)
        | (go_at_call 41; (with_reducible refine (HPt.out _).mono ?_); rintro e wp ⟨rfl, hGp⟩))
      have HXp : Hid (∀ U, Grown wp U → U.cell? ⟨n0, 13, none⟩ = some (.string v) ∧ U.cell? ⟨n0, 14, none⟩ = some (.int .i64 k) ∧ U.cell? ⟨n0, 15, none⟩ = some (.string t) ∧ U.cell? ⟨n0, 16, none⟩ = some (.string x) ∧ U.cell? ⟨n0 + 1, 13, none⟩ = some (.string v') ∧ U.cell? ⟨n0 + 1, 14, none⟩ = some (.int .i64 k') ∧ U.cell? ⟨n0 + 1, 15, none⟩ = some (.string t') ∧ U.cell? ⟨n0 + 1, 16, none⟩ = some (.string x') ∧
          U.cell? ⟨n0, 17, none⟩ = some (.string u) ∧ U.cell? ⟨n0, 18, none⟩ = some (.int .i64 l) ∧ U.cell? ⟨n0, 19, none⟩ = some (.string s) ∧ U.cell? ⟨n0, 20, none⟩ = some (.string y) ∧ U.cell? ⟨n0 + 1, 17, none⟩ = some (.string u') ∧ U.cell? ⟨n0 + 1, 18, none⟩ = some (.int .i64 l') ∧ U.cell? ⟨n0 + 1, 19, none⟩ = some (.string s') ∧ U.cell? ⟨n0 + 1, 20, none⟩ = some (.string y')) := Lib.hid (fun U hU => by
        obtain ⟨z1, z2⟩ := HX.out U (hGp.step hU)
        exact ⟨z1.a0, z1.a1, z1.a2, z1.a3, z2.a0, z2.a1, z2.a2, z2.a3, z1.b0, z1.b1, z1.b2, z1.b3, z2.b0, z2.b1, z2.b2, z2.b3⟩)
      have HGp := Lib.hid (HG0.out.step hGp)
      clear hGp HX HG0 HKd HPt k1c k2c HP1 HP2
      refine wp_region_held_drew (S := fun U : World => Grown wp U) (by kernel_rfl) ((Grown.refl wp).drew) (fun hHeld => ?_)
      refine wpAnyH_take (i := 0) (v := .pointer (some ⟨n0, 13, none⟩)) rfl (by kernel_rfl) (by kernel_rfl) (by kernel_rfl) (fun _ _ _ h => h) (Or.inl ⟨by rfl, fun w hSw => by (try dsimp only at hSw); go_simp⟩) hHeld ?_
      simp only [Act.put, List.setIfInBounds_toArray, List.set_cons_zero, List.set_cons_succ, List.getElem_toArray, List.getElem_cons_succ, List.getElem_cons_zero]
      refine wpAnyH_take (i := 1) (v := .agg #[.string v, .int .i64 k, .string t, .string x]) rfl (by kernel_rfl) (by kernel_rfl) (by kernel_rfl) (fun _ _ _ h => h) (Or.inl ⟨by rfl, fun w hSw => by (try dsimp only at hSw); obtain ⟨x0, x1, x2, x3, x4, x5, x6, x7, x8, x9, x10, x11, x12, x13, x14, x15⟩ := HXp.out _ hSw; go_simp⟩) hHeld ?_
      simp only [Act.put, List.setIfInBounds_toArray, List.set_cons_zero, List.set_cons_succ, List.getElem_toArray, List.getElem_cons_succ, List.getElem_cons_zero]
      refine wpAnyH_take (i := 2) (v := .pointer (some ⟨n0 + 1, 13, none⟩)) rfl (by kernel_rfl) (by kernel_rfl) (by kernel_rfl) (fun _ _ _ h => h) (Or.inl ⟨by rfl, fun w hSw => by (try dsimp only at hSw); go_simp⟩) hHeld ?_
      simp only [Act.put, List.setIfInBounds_toArray, List.set_cons_zero, List.set_cons_succ, List.getElem_toArray, List.getElem_cons_succ, List.getElem_cons_zero]
      refine wpAnyH_take (i := 3) (v := (.agg #[.string v', .int .i64 k', .string t', .string x'])) rfl (by kernel_rfl) (by kernel_rfl) (by kernel_rfl) (fun _ _ _ h => h) (Or.inl ⟨by rfl, fun w hSw => by (try dsimp only at hSw); obtain ⟨x0, x1, x2, x3, x4, x5, x6, x7, x8, x9, x10, x11, x12, x13, x14, x15⟩ := HXp.out _ hSw; go_simp⟩) hHeld ?_
      simp only [Act.put, List.setIfInBounds_toArray, List.set_cons_zero, List.set_cons_succ, List.getElem_toArray, List.getElem_cons_succ, List.getElem_cons_zero]
      refine wpAnyH_take (i := 5) (v := .pointer (some ⟨n0, 17, none⟩)) rfl (by kernel_rfl) (by kernel_rfl) (by kernel_rfl) (fun _ _ _ h => h) (Or.inl ⟨by rfl, fun w hSw => by (try dsimp only at hSw); go_simp⟩) hHeld ?_
      simp only [Act.put, List.setIfInBounds_toArray, List.set_cons_zero, List.set_cons_succ, List.getElem_toArray, List.getElem_cons_succ, List.getElem_cons_zero]
      refine wpAnyH_take (i := 6) (v := .agg #[.string u, .int .i64 l, .string s, .string y]) rfl (by kernel_rfl) (by kernel_rfl) (by kernel_rfl) (fun _ _ _ h => h) (Or.inl ⟨by rfl, fun w hSw => by (try dsimp only at hSw); obtain ⟨x0, x1, x2, x3, x4, x5, x6, x7, x8, x9, x10, x11, x12, x13, x14, x15⟩ := HXp.out _ hSw; go_simp⟩) hHeld ?_
      simp only [Act.put, List.setIfInBounds_toArray, List.set_cons_zero, List.set_cons_succ, List.getElem_toArray, List.getElem_cons_succ, List.getElem_cons_zero]
      refine wpAnyH_take (i := 7) (v := .pointer (some ⟨n0 + 1, 17, none⟩)) rfl (by kernel_rfl) (by kernel_rfl) (by kernel_rfl) (fun _ _ _ h => h) (Or.inl ⟨by rfl, fun w hSw => by (try dsimp only at hSw); go_simp⟩) hHeld ?_
      simp only [Act.put, List.setIfInBounds_toArray, List.set_cons_zero, List.set_cons_succ, List.getElem_toArray, List.getElem_cons_succ, List.getElem_cons_zero]
      refine wpAnyH_take (i := 8) (v := (.agg #[.string u', .int .i64 l', .string s', .string y'])) rfl (by kernel_rfl) (by kernel_rfl) (by kernel_rfl) (fun _ _ _ h => h) (Or.inl ⟨by rfl, fun w hSw => by (try dsimp only at hSw); obtain ⟨x0, x1, x2, x3, x4, x5, x6, x7, x8, x9, x10, x11, x12, x13, x14, x15⟩ := HXp.out _ hSw; go_simp⟩) hHeld ?_
      simp only [Act.put, List.setIfInBounds_toArray, List.set_cons_zero, List.set_cons_succ, List.getElem_toArray, List.getElem_cons_succ, List.getElem_cons_zero]
      refine wpAnyH_ready (rs := [4]) (by kernel_rfl) (by simp) ?_
      refine AllReadyH.cons rfl (fun K hK => ?_) AllReadyH.nil
      go_simp
      refine (HS.out _).mono ?_
      rintro e ua ⟨rfl, hGa⟩
      dsimp only
      have hGwa := ((Grown.refl wp).drew).step hGa
      refine hK.out _ _ hGwa (fun hHeld => ?_)
      clear hK K hGa
      (try simp only [Act.put, List.setIfInBounds_toArray, List.set_cons_zero, List.set_cons_succ, List.getElem_toArray, List.getElem_cons_succ, List.getElem_cons_zero])
      refine wpAnyH_ready (rs := [9]) (by kernel_rfl) (by simp) ?_
      refine AllReadyH.cons rfl (fun K hK => ?_) AllReadyH.nil
      go_simp
      refine (HT.out _).mono ?_
      rintro e ub ⟨rfl, hGb⟩
      dsimp only
      have hGwb := hGwa.step hGb
      refine hK.out _ _ hGwb (fun hHeld => ?_)
      clear hK K hGb
      (try simp only [Act.put, List.setIfInBounds_toArray, List.set_cons_zero, List.set_cons_succ, List.getElem_toArray, List.getElem_cons_succ, List.getElem_cons_zero])
      refine wpAnyH_ready (rs := [10]) (by kernel_rfl) (by simp) ?_
      refine AllReadyH.cons rfl (fun K hK => ?_) AllReadyH.nil
      go_simp
      refine hK.out _ _ (hGwb.step (Grown.new _ _)) (fun hHeld => ?_)
      clear hK K
      (try simp only [Act.put, List.setIfInBounds_toArray, List.set_cons_zero, List.set_cons_succ, List.getElem_toArray, List.getElem_cons_succ, List.getElem_cons_zero])
      refine wpAnyH_ready (rs := [11]) (by kernel_rfl) (by simp) ?_
      refine AllReadyH.cons rfl (fun K hK => ?_) AllReadyH.nil
      go_simp
      refine (HO.out _).mono ?_
      rintro e u9 ⟨rfl, rfl⟩
      dsimp only
      refine hK.out _ _ (hGwb.step (Grown.new _ _)) (fun hHeld => ?_)
      clear hK K
      (try simp only [Act.put, List.setIfInBounds_toArray, List.set_cons_zero, List.set_cons_succ, List.getElem_toArray, List.getElem_cons_succ, List.getElem_cons_zero])
      refine wpAnyH_take (i := 12) (v := .int .i64 (orI c1 c2)) rfl (by kernel_rfl) (by kernel_rfl) (by kernel_rfl) (fun _ _ _ h => h) (Or.inl ⟨by rfl, fun w hSw => by (try dsimp only at hSw); go_simp⟩) hHeld ?_
      simp only [Act.put, List.setIfInBounds_toArray, List.set_cons_zero, List.set_cons_succ, List.getElem_toArray, List.getElem_cons_succ, List.getElem_cons_zero]
      refine wpAnyH_done (by kernel_rfl) ?_ _
      clear hHeld
      clear hGwa
      go_wp2
      go_ret
      exact ⟨by rw [HR.out] <;> rfl, HGp.out.step (hGwb.step (Grown.new _ _))⟩
    · rw [if_neg h2] at HR
      have e2 : (k2 != 0) = true := by simp [h2]
      clear h2
      go_enter Tryz.func43, Tryz.ntmps43
      go_upto_region 1 with fail
      rw [← HW.out, ← HN.out]
      go_wp2_with (first
        | (refine wpList_load_mid rfl 40 (.tmp 15) rfl n0 1 rfl Ea _ HP1.out Tryz.underlying40 rfl HI.out ?_)
        | (refine wpList_load_mid rfl 40 (.tmp 17) rfl (n0 + 1) 1 rfl Eb _ HP2.out Tryz.underlying40 rfl HI2.out ?_)
        | (go_at_call 54; (with_reducible refine (HKd.out _).mono ?_); rintro e w' ⟨rfl, rfl⟩)
        | (go_at_call 41; (with_reducible refine (HPt.out _).mono ?_); rintro e wp ⟨rfl, hGp⟩))
      go_ret
      exact ⟨by rw [HR.out] <;> rfl, HG0.out.step hGp⟩
  · have e1 : (k1 != 0) = true := by simp [h1]
    rw [if_neg h1] at HR
    clear h1
    go_enter Tryz.func43, Tryz.ntmps43
    go_upto_region 1 with fail
    rw [← HW.out, ← HN.out]
    go_wp2_with (go_at_call 54; (with_reducible refine (HKd.out _).mono ?_); rintro e w' ⟨rfl, rfl⟩)
    go_ret
    exact ⟨by rw [HR.out] <;> rfl, HG0.out⟩
end Go.Proofs.YtlkiigoblkfkpaaGreatDoor

