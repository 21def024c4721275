/-
  WHAT THE PROOF STANDS ON, a part of it: CkKnown.
-/
import Derived.Test.YtlkiigoblkfkpaaGreatDoorC36
import Derived.Test.YtlkiigoblkfkpaaGreatDoorC4
/-
  CONTRACT OF THE LAW'S known. (Written by tools/genckknown.py.)
-/

namespace Go.Proofs.YtlkiigoblkfkpaaGreatDoor
open Go.RowKit
open Utf Term
set_option linter.unusedVariables false
set_option linter.unusedSimpArgs false

def kZ : Array Value := #[.string ⟨#[]⟩, .int .i64 0, .string ⟨#[]⟩, .string ⟨#[]⟩, .string ⟨#[]⟩, .int .i64 0, .string ⟨#[]⟩, .string ⟨#[]⟩, .string ⟨#[]⟩, .int .i64 0, .string ⟨#[]⟩, .string ⟨#[]⟩, .slice none 0 0]
def kL : List Value := [.int .i64 1, .string ⟨#[120]⟩, .int .i64 0, .string ⟨#[]⟩, .string ⟨#[]⟩, .string ⟨#[]⟩, .int .i64 1, .string hp, .string ⟨#[]⟩, .string ⟨#[122]⟩, .int .i64 0, .string ⟨#[]⟩, .string ⟨#[]⟩, .string ⟨#[]⟩, .int .i64 0, .string ⟨#[]⟩, .string ⟨#[]⟩, .string ⟨#[]⟩, .int .i64 0, .string ⟨#[]⟩, .string ⟨#[]⟩]
def HasB (W : World) (g : Nat) (C : Array Value) : Prop := W.heap[g]? = some (.cells C 46 (0, 0))
theorem HasB.lt {W : World} {g : Nat} {C : Array Value} (h : HasB W g C) : g < W.heap.size := (Array.getElem?_eq_some_iff.1 (show W.heap[g]? = some _ from h)).1
theorem HasB.next {W U : World} {g : Nat} {C : Array Value} (h : HasB W g C) (k : Below W.heap.size W U) : HasB U g C := by
  have := h.lt
  show U.heap[g]? = _
  rw [k.block g this]
  exact h
theorem Below.heap_le (u : World) (o : Obj) : Below u.heap.size u (u.alloc o) := (Below.refl _ _).alloc (Nat.le_refl _) _
theorem HasB.there {W : World} {g : Nat} (h : HasB W g kZ) : W.there g 0 13 := fun j hj => by
  rw [Nat.zero_add]
  refine ⟨?_, free_in (show W.heap[g]? = some _ from h) j⟩
  rw [cell_in (v := kZ[j]'hj) (show W.heap[g]? = some _ from h) (Array.getElem?_eq_getElem hj)]
  rfl
theorem run_allocK (w : World) : (Instr.alloc 46 true (.tuple #[])).run Tryz.prog w = .ok (.pointer (some ⟨w.heap.size, 0, none⟩)) (w.alloc (.cells kZ 46)) := by
  unfold kZ
  go_simp
theorem range_newK (u : World) : (u.alloc (.cells kL.toArray 43)).rangeAt u.heap.size 0 kL := fun j v hj => by
  rw [Nat.zero_add]
  exact cell_in (heap_alloc_new u _) (by simpa using hj)
theorem below_cellsK {B : Nat} {w : World} {g : Nat} : ∀ (cs : List Value) (o : Nat) (U : World), Below B w U → B ≤ g → Below B w (U.setCells g o cs)
  | [], _, _, h, _ => h
  | c :: cs, o, U, h, hg => below_cellsK cs (o + 1) _ (h.setCell (p := ⟨g, o, none⟩) hg _) hg
theorem below_putK {w u : World} {g : Nat} (h : Below w.heap.size w u) (q : HasB u g kZ) (hg : w.heap.size ≤ g) (C : Array Value) : Below w.heap.size w (u.setCells g 0 C.toList) := below_cellsK C.toList 0 u h hg
theorem range_apartK {u : World} {g b : Nat} {L : List Value} (h : u.rangeAt b 0 L) (hne : g ≠ b) (cs : List Value) : (u.setCells g 0 cs).rangeAt b 0 L := fun j v hj => by
  rw [World.cell?_setCells_out _ _ _ _ _ (fun e => (hne e.symm).elim)]
  exact h j v hj
def KnA (W : World) (s : Value) (U : World) : Prop := ∃ g b, s = .pointer (some ⟨g, 0, none⟩) ∧ U.rangeAt g 0 [.string ⟨#[120]⟩, .int .i64 0, .string ⟨#[]⟩, .string ⟨#[]⟩, .string ⟨#[]⟩, .int .i64 1, .string hp, .string ⟨#[]⟩, .string ⟨#[121]⟩, .int .i64 0, .string ⟨#[]⟩, .string ⟨#[]⟩, .slice (some ⟨b, 0, none⟩) 1 1] ∧ U.rangeAt b 0 kL ∧ Below W.heap.size W U
def KnB (W : World) (b : Nat) (s : Value) (U : World) : Prop := ∃ g, s = .pointer (some ⟨g, 0, none⟩) ∧ U.rangeAt g 0 [.string ⟨#[120]⟩, .int .i64 0, .string ⟨#[]⟩, .string ⟨#[]⟩, .string ⟨#[]⟩, .int .i64 1, .string hp, .string ⟨#[]⟩, .string ⟨#[122]⟩, .int .i64 0, .string ⟨#[]⟩, .string ⟨#[]⟩, .slice (some ⟨b, 0, none⟩) 1 1] ∧ Below W.heap.size W U
set_option maxRecDepth 100000 in
set_option maxHeartbeats 16000000 in
theorem ckKnown_any (w : World) (m : Int) (hm : HasMax w m) : Calls Tryz.prog 7 #[] w fun e w' => e = .returned (.bool true) ∧ Below w.heap.size w w' := by
  have hbw := (Below.refl w.heap.size w).alloc (Nat.le_refl _) (.cells #[.string ⟨#[]⟩, .int .i64 1, .string hp, .string ⟨#[]⟩] 37)
  have d1 := heap_alloc_new w (.cells #[.string ⟨#[]⟩, .int .i64 1, .string hp, .string ⟨#[]⟩] 37)
  obtain ⟨n0, hn0⟩ : ∃ n0, n0 = w.heap.size := ⟨_, rfl⟩
  rw [← hn0] at d1
  obtain ⟨W, hW⟩ : ∃ W, W = w.alloc (.cells #[.string ⟨#[]⟩, .int .i64 1, .string hp, .string ⟨#[]⟩] 37) := ⟨_, rfl⟩
  rw [← hW] at hbw d1
  have HX : Hid (∀ U, Below W.heap.size W U → U.cell? ⟨n0, 0, none⟩ = some (.string ⟨#[]⟩) ∧ U.cell? ⟨n0, 1, none⟩ = some (.int .i64 1) ∧ U.cell? ⟨n0, 2, none⟩ = some (.string hp) ∧ U.cell? ⟨n0, 3, none⟩ = some (.string ⟨#[]⟩)) := Lib.hid (fun U hU => by
    have a1 := (hU.block n0 (Array.getElem?_eq_some_iff.1 d1).1).trans d1
    exact ⟨cell_in a1 rfl, cell_in a1 rfl, cell_in a1 rfl, cell_in a1 rfl⟩)
  have HW := Lib.hid hW
  have HN := Lib.hid hn0
  have HB := Lib.hid hbw
  have HM := Lib.hid (cell_below hbw hm)
  clear hW hn0 d1 hbw hm
  go_enter Tryz.func7, Tryz.ntmps7
  go_upto_region 3 with fail
  rw [← HW.out, ← HN.out]
  go_cut [3] (fun s3 U3 => KnA W s3 U3)
  case first =>
    refine wp_region_held_drew (S := fun U : World => Below W.heap.size W U) (by kernel_rfl) ((Below.refl _ _).drew) (fun hHeld => ?_)
    have b0 := (Below.refl W.heap.size W).drew
    refine wpAnyH_take (i := 0) (v := .func (.func 12) #[] #[]) rfl (by kernel_rfl) (by kernel_rfl) (by kernel_rfl) (fun _ _ _ h => h) (Or.inl ⟨by rfl, fun w hSw => by (try dsimp only at hSw); go_simp⟩) hHeld ?_
    simp only [Act.put, List.setIfInBounds_toArray, List.set_cons_zero, List.set_cons_succ, List.getElem_toArray, List.getElem_cons_succ, List.getElem_cons_zero]
    refine wpAnyH_take (i := 2) (v := .agg #[.string ⟨#[]⟩, .int .i64 1, .string hp, .string ⟨#[]⟩]) rfl (by kernel_rfl) (by kernel_rfl) (by kernel_rfl) (fun _ _ _ h => h) (Or.inl ⟨by rfl, fun w hSw => by (try dsimp only at hSw); obtain ⟨x0, x1, x2, x3⟩ := HX.out _ hSw; go_simp⟩) hHeld ?_
    simp only [Act.put, List.setIfInBounds_toArray, List.set_cons_zero, List.set_cons_succ, List.getElem_toArray, List.getElem_cons_succ, List.getElem_cons_zero]
    refine wpAnyH_take (i := 3) (v := .func (.func 12) #[] #[]) rfl (by kernel_rfl) (by kernel_rfl) (by kernel_rfl) (fun _ _ _ h => h) (Or.inl ⟨by rfl, fun w hSw => by (try dsimp only at hSw); go_simp⟩) hHeld ?_
    simp only [Act.put, List.setIfInBounds_toArray, List.set_cons_zero, List.set_cons_succ, List.getElem_toArray, List.getElem_cons_succ, List.getElem_cons_zero]
    refine wpAnyH_take (i := 6) (v := .func (.func 12) #[] #[]) rfl (by kernel_rfl) (by kernel_rfl) (by kernel_rfl) (fun _ _ _ h => h) (Or.inl ⟨by rfl, fun w hSw => by (try dsimp only at hSw); go_simp⟩) hHeld ?_
    simp only [Act.put, List.setIfInBounds_toArray, List.set_cons_zero, List.set_cons_succ, List.getElem_toArray, List.getElem_cons_succ, List.getElem_cons_zero]
    refine wpAnyH_take (i := 8) (v := .agg #[.string ⟨#[]⟩, .int .i64 1, .string hp, .string ⟨#[]⟩]) rfl (by kernel_rfl) (by kernel_rfl) (by kernel_rfl) (fun _ _ _ h => h) (Or.inl ⟨by rfl, fun w hSw => by (try dsimp only at hSw); obtain ⟨x0, x1, x2, x3⟩ := HX.out _ hSw; go_simp⟩) hHeld ?_
    simp only [Act.put, List.setIfInBounds_toArray, List.set_cons_zero, List.set_cons_succ, List.getElem_toArray, List.getElem_cons_succ, List.getElem_cons_zero]
    refine wpAnyH_take (i := 9) (v := .func (.func 12) #[] #[]) rfl (by kernel_rfl) (by kernel_rfl) (by kernel_rfl) (fun _ _ _ h => h) (Or.inl ⟨by rfl, fun w hSw => by (try dsimp only at hSw); go_simp⟩) hHeld ?_
    simp only [Act.put, List.setIfInBounds_toArray, List.set_cons_zero, List.set_cons_succ, List.getElem_toArray, List.getElem_cons_succ, List.getElem_cons_zero]
    refine wpAnyH_ready (rs := [1, 15]) (by kernel_rfl) (by simp) ?_
    refine AllReadyH.cons rfl (fun K hK => ?_) ?_
    · go_simp
      refine (knv_any _ _).mono ?_
      rintro e u1 ⟨rfl, k1⟩
      dsimp only
      have b1 := b0.trans (k1.mono b0.size)
      refine hK.out _ _ b1 (fun hHeld => ?_)
      clear hK K k1
      (try simp only [Act.put, List.setIfInBounds_toArray, List.set_cons_zero, List.set_cons_succ, List.getElem_toArray, List.getElem_cons_succ, List.getElem_cons_zero])
      refine wpAnyH_ready (rs := [4, 15]) (by kernel_rfl) (by simp) ?_
      refine AllReadyH.cons rfl (fun K hK => ?_) ?_
      · go_simp
        refine (knv_any _ _).mono ?_
        rintro e u2 ⟨rfl, k2⟩
        dsimp only
        have b2 := b1.trans (k2.mono b1.size)
        refine hK.out _ _ b2 (fun hHeld => ?_)
        clear hK K k2
        (try simp only [Act.put, List.setIfInBounds_toArray, List.set_cons_zero, List.set_cons_succ, List.getElem_toArray, List.getElem_cons_succ, List.getElem_cons_zero])
        refine wpAnyH_take (i := 5) (v := .agg #[.string ⟨#[120]⟩, .int .i64 0, .string ⟨#[]⟩, .string ⟨#[]⟩, .string ⟨#[]⟩, .int .i64 1, .string hp, .string ⟨#[]⟩, .string ⟨#[121]⟩, .int .i64 0, .string ⟨#[]⟩, .string ⟨#[]⟩]) rfl (by kernel_rfl) (by kernel_rfl) (by kernel_rfl) (fun _ _ _ h => h) (Or.inl ⟨by rfl, fun w hSw => by (try dsimp only at hSw); go_simp⟩) hHeld ?_
        simp only [Act.put, List.setIfInBounds_toArray, List.set_cons_zero, List.set_cons_succ, List.getElem_toArray, List.getElem_cons_succ, List.getElem_cons_zero]
        refine wpAnyH_ready (rs := [7, 15]) (by kernel_rfl) (by simp) ?_
        refine AllReadyH.cons rfl (fun K hK => ?_) ?_
        · go_simp
          refine (knv_any _ _).mono ?_
          rintro e u3 ⟨rfl, k3⟩
          dsimp only
          have b3 := b2.trans (k3.mono b2.size)
          refine hK.out _ _ b3 (fun hHeld => ?_)
          clear hK K k3
          (try simp only [Act.put, List.setIfInBounds_toArray, List.set_cons_zero, List.set_cons_succ, List.getElem_toArray, List.getElem_cons_succ, List.getElem_cons_zero])
          refine wpAnyH_ready (rs := [10, 15]) (by kernel_rfl) (by simp) ?_
          refine AllReadyH.cons rfl (fun K hK => ?_) ?_
          · go_simp
            refine (knv_any _ _).mono ?_
            rintro e u4 ⟨rfl, k4⟩
            dsimp only
            have b4 := b3.trans (k4.mono b3.size)
            refine hK.out _ _ b4 (fun hHeld => ?_)
            clear hK K k4
            (try simp only [Act.put, List.setIfInBounds_toArray, List.set_cons_zero, List.set_cons_succ, List.getElem_toArray, List.getElem_cons_succ, List.getElem_cons_zero])
            refine wpAnyH_take (i := 11) (v := .agg #[.string ⟨#[120]⟩, .int .i64 0, .string ⟨#[]⟩, .string ⟨#[]⟩, .string ⟨#[]⟩, .int .i64 1, .string hp, .string ⟨#[]⟩, .string ⟨#[122]⟩, .int .i64 0, .string ⟨#[]⟩, .string ⟨#[]⟩]) rfl (by kernel_rfl) (by kernel_rfl) (by kernel_rfl) (fun _ _ _ h => h) (Or.inl ⟨by rfl, fun w hSw => by (try dsimp only at hSw); go_simp⟩) hHeld ?_
            simp only [Act.put, List.setIfInBounds_toArray, List.set_cons_zero, List.set_cons_succ, List.getElem_toArray, List.getElem_cons_succ, List.getElem_cons_zero]
            refine wpAnyH_take (i := 12) (v := .agg #[.int .i64 1, .string ⟨#[120]⟩, .int .i64 0, .string ⟨#[]⟩, .string ⟨#[]⟩, .string ⟨#[]⟩, .int .i64 1, .string hp, .string ⟨#[]⟩, .string ⟨#[122]⟩, .int .i64 0, .string ⟨#[]⟩, .string ⟨#[]⟩, .string ⟨#[]⟩, .int .i64 0, .string ⟨#[]⟩, .string ⟨#[]⟩, .string ⟨#[]⟩, .int .i64 0, .string ⟨#[]⟩, .string ⟨#[]⟩]) rfl (by kernel_rfl) (by kernel_rfl) (by kernel_rfl) (fun _ _ _ h => h) (Or.inl ⟨by rfl, fun w hSw => by (try dsimp only at hSw); go_simp⟩) hHeld ?_
            simp only [Act.put, List.setIfInBounds_toArray, List.set_cons_zero, List.set_cons_succ, List.getElem_toArray, List.getElem_cons_succ, List.getElem_cons_zero]
            refine wpAnyH_ready (rs := [13, 15]) (by kernel_rfl) (by simp) ?_
            refine AllReadyH.cons rfl (fun K hK => ?_) ?_
            · rw [if_pos (by rfl)]
              refine wp_buildOne 44 43 _ rfl kL rfl Tryz.underlying44 (by kernel_rfl) (by kernel_rfl) (by decide) (by decide) ?_
              have b5 := b4.alloc b4.size (.cells kL.toArray 43)
              have l5 : (u4.alloc (.cells kL.toArray 43)).rangeAt u4.heap.size 0 kL := range_newK u4
              refine hK.out _ _ b5 (fun hHeld => ?_)
              clear hK K
              (try simp only [Act.put, List.setIfInBounds_toArray, List.set_cons_zero, List.set_cons_succ, List.getElem_toArray, List.getElem_cons_succ, List.getElem_cons_zero])
              refine wpAnyH_take (i := 14) (v := .agg #[.string ⟨#[120]⟩, .int .i64 0, .string ⟨#[]⟩, .string ⟨#[]⟩, .string ⟨#[]⟩, .int .i64 1, .string hp, .string ⟨#[]⟩, .string ⟨#[121]⟩, .int .i64 0, .string ⟨#[]⟩, .string ⟨#[]⟩, .slice (some ⟨u4.heap.size, 0, none⟩) 1 1]) rfl (by kernel_rfl) (by kernel_rfl) (by kernel_rfl) (fun _ _ _ h => h) (Or.inl ⟨by rfl, fun w hSw => by (try dsimp only at hSw); go_simp⟩) hHeld ?_
              simp only [Act.put, List.setIfInBounds_toArray, List.set_cons_zero, List.set_cons_succ, List.getElem_toArray, List.getElem_cons_succ, List.getElem_cons_zero]
              refine wpAnyH_ready (rs := [15]) (by kernel_rfl) (by simp) ?_
              refine AllReadyH.cons rfl (fun K hK => ?_) AllReadyH.nil
              rw [if_pos (by rfl)]
              refine wp_allocT 46 rfl _ _ (run_allocK _) ?_
              have b6 := b5.alloc b5.size (.cells kZ 46)
              have q6 : HasB ((u4.alloc (.cells kL.toArray 43)).alloc (.cells kZ 46)) (u4.alloc (.cells kL.toArray 43)).heap.size kZ := heap_alloc_new _ _
              have e6 : (u4.alloc (.cells kL.toArray 43)).heap.size ≠ u4.heap.size := fun h => by have := World.block_lt_of_cell? _ _ (l5 0 _ rfl); simp only at this; omega
              have l6 := belowR l5 (Below.heap_le (u4.alloc (.cells kL.toArray 43)) (.cells kZ 46))
              refine hK.out _ _ b6 (fun hHeld => ?_)
              clear hK K
              (try simp only [Act.put, List.setIfInBounds_toArray, List.set_cons_zero, List.set_cons_succ, List.getElem_toArray, List.getElem_cons_succ, List.getElem_cons_zero])
              refine wpAnyH_ready (rs := [16]) (by kernel_rfl) (by simp) ?_
              refine AllReadyH.cons rfl (fun K hK => ?_) AllReadyH.nil
              rw [if_pos (by rfl)]
              refine wp_store_mid 46 _ _ rfl ((u4.alloc (.cells kL.toArray 43)).heap.size) 0 #[.string ⟨#[120]⟩, .int .i64 0, .string ⟨#[]⟩, .string ⟨#[]⟩, .string ⟨#[]⟩, .int .i64 1, .string hp, .string ⟨#[]⟩, .string ⟨#[121]⟩, .int .i64 0, .string ⟨#[]⟩, .string ⟨#[]⟩, .slice (some ⟨u4.heap.size, 0, none⟩) 1 1] rfl rfl q6.there (by kernel_rfl) (by simp [Value.oneCell']) ?_
              have b7 := below_putK b6 q6 b5.size #[.string ⟨#[120]⟩, .int .i64 0, .string ⟨#[]⟩, .string ⟨#[]⟩, .string ⟨#[]⟩, .int .i64 1, .string hp, .string ⟨#[]⟩, .string ⟨#[121]⟩, .int .i64 0, .string ⟨#[]⟩, .string ⟨#[]⟩, .slice (some ⟨u4.heap.size, 0, none⟩) 1 1]
              refine hK.out _ _ b7 (fun hHeld => ?_)
              clear hK K
              (try simp only [Act.put, List.setIfInBounds_toArray, List.set_cons_zero, List.set_cons_succ, List.getElem_toArray, List.getElem_cons_succ, List.getElem_cons_zero])
              refine wpAnyH_done (by kernel_rfl) ?_ _
              clear hHeld
              simp only [Exit.then]
              refine ‹∀ (a' : Act) (w' : World), Met _ a' w' → _› _ _ ?_
              go_meet
              exact ⟨(u4.alloc (.cells kL.toArray 43)).heap.size, u4.heap.size, rfl, World.rangeAt_setCells_same _ _ _ _ q6.there, range_apartK l6 e6 _, b7⟩
            refine AllReadyH.cons rfl (fun K hK => ?_) AllReadyH.nil
            rw [if_pos (by rfl)]
            refine wp_allocT 46 rfl _ _ (run_allocK _) ?_
            have b8 := b4.alloc b4.size (.cells kZ 46)
            have q8 : HasB (u4.alloc (.cells kZ 46)) u4.heap.size kZ := heap_alloc_new _ _
            refine hK.out _ _ b8 (fun hHeld => ?_)
            clear hK K
            (try simp only [Act.put, List.setIfInBounds_toArray, List.set_cons_zero, List.set_cons_succ, List.getElem_toArray, List.getElem_cons_succ, List.getElem_cons_zero])
            refine wpAnyH_ready (rs := [13]) (by kernel_rfl) (by simp) ?_
            refine AllReadyH.cons rfl (fun K hK => ?_) AllReadyH.nil
            rw [if_pos (by rfl)]
            refine wp_buildOne 44 43 _ rfl kL rfl Tryz.underlying44 (by kernel_rfl) (by kernel_rfl) (by decide) (by decide) ?_
            have b9 := b8.alloc b8.size (.cells kL.toArray 43)
            have l9 : ((u4.alloc (.cells kZ 46)).alloc (.cells kL.toArray 43)).rangeAt (u4.alloc (.cells kZ 46)).heap.size 0 kL := range_newK (u4.alloc (.cells kZ 46))
            have e9 : u4.heap.size ≠ (u4.alloc (.cells kZ 46)).heap.size := fun h => by have := q8.lt; omega
            have q9 := q8.next (Below.heap_le (u4.alloc (.cells kZ 46)) (.cells kL.toArray 43))
            refine hK.out _ _ b9 (fun hHeld => ?_)
            clear hK K
            (try simp only [Act.put, List.setIfInBounds_toArray, List.set_cons_zero, List.set_cons_succ, List.getElem_toArray, List.getElem_cons_succ, List.getElem_cons_zero])
            refine wpAnyH_take (i := 14) (v := .agg #[.string ⟨#[120]⟩, .int .i64 0, .string ⟨#[]⟩, .string ⟨#[]⟩, .string ⟨#[]⟩, .int .i64 1, .string hp, .string ⟨#[]⟩, .string ⟨#[121]⟩, .int .i64 0, .string ⟨#[]⟩, .string ⟨#[]⟩, .slice (some ⟨(u4.alloc (.cells kZ 46)).heap.size, 0, none⟩) 1 1]) rfl (by kernel_rfl) (by kernel_rfl) (by kernel_rfl) (fun _ _ _ h => h) (Or.inl ⟨by rfl, fun w hSw => by (try dsimp only at hSw); go_simp⟩) hHeld ?_
            simp only [Act.put, List.setIfInBounds_toArray, List.set_cons_zero, List.set_cons_succ, List.getElem_toArray, List.getElem_cons_succ, List.getElem_cons_zero]
            refine wpAnyH_ready (rs := [16]) (by kernel_rfl) (by simp) ?_
            refine AllReadyH.cons rfl (fun K hK => ?_) AllReadyH.nil
            rw [if_pos (by rfl)]
            refine wp_store_mid 46 _ _ rfl (u4.heap.size) 0 #[.string ⟨#[120]⟩, .int .i64 0, .string ⟨#[]⟩, .string ⟨#[]⟩, .string ⟨#[]⟩, .int .i64 1, .string hp, .string ⟨#[]⟩, .string ⟨#[121]⟩, .int .i64 0, .string ⟨#[]⟩, .string ⟨#[]⟩, .slice (some ⟨(u4.alloc (.cells kZ 46)).heap.size, 0, none⟩) 1 1] rfl rfl q9.there (by kernel_rfl) (by simp [Value.oneCell']) ?_
            have b10 := below_putK b9 q9 b4.size #[.string ⟨#[120]⟩, .int .i64 0, .string ⟨#[]⟩, .string ⟨#[]⟩, .string ⟨#[]⟩, .int .i64 1, .string hp, .string ⟨#[]⟩, .string ⟨#[121]⟩, .int .i64 0, .string ⟨#[]⟩, .string ⟨#[]⟩, .slice (some ⟨(u4.alloc (.cells kZ 46)).heap.size, 0, none⟩) 1 1]
            refine hK.out _ _ b10 (fun hHeld => ?_)
            clear hK K
            (try simp only [Act.put, List.setIfInBounds_toArray, List.set_cons_zero, List.set_cons_succ, List.getElem_toArray, List.getElem_cons_succ, List.getElem_cons_zero])
            refine wpAnyH_done (by kernel_rfl) ?_ _
            clear hHeld
            simp only [Exit.then]
            refine ‹∀ (a' : Act) (w' : World), Met _ a' w' → _› _ _ ?_
            go_meet
            exact ⟨u4.heap.size, (u4.alloc (.cells kZ 46)).heap.size, rfl, World.rangeAt_setCells_same _ _ _ _ q9.there, range_apartK l9 e9 _, b10⟩
          refine AllReadyH.cons rfl (fun K hK => ?_) AllReadyH.nil
          rw [if_pos (by rfl)]
          refine wp_allocT 46 rfl _ _ (run_allocK _) ?_
          have b11 := b3.alloc b3.size (.cells kZ 46)
          have q11 : HasB (u3.alloc (.cells kZ 46)) u3.heap.size kZ := heap_alloc_new _ _
          refine hK.out _ _ b11 (fun hHeld => ?_)
          clear hK K
          (try simp only [Act.put, List.setIfInBounds_toArray, List.set_cons_zero, List.set_cons_succ, List.getElem_toArray, List.getElem_cons_succ, List.getElem_cons_zero])
          refine wpAnyH_ready (rs := [10]) (by kernel_rfl) (by simp) ?_
          refine AllReadyH.cons rfl (fun K hK => ?_) AllReadyH.nil
          go_simp
          refine (knv_any _ _).mono ?_
          rintro e u12 ⟨rfl, k12⟩
          dsimp only
          have b12 := b11.trans (k12.mono b11.size)
          have q12 := q11.next k12
          refine hK.out _ _ b12 (fun hHeld => ?_)
          clear hK K k12
          (try simp only [Act.put, List.setIfInBounds_toArray, List.set_cons_zero, List.set_cons_succ, List.getElem_toArray, List.getElem_cons_succ, List.getElem_cons_zero])
          refine wpAnyH_take (i := 11) (v := .agg #[.string ⟨#[120]⟩, .int .i64 0, .string ⟨#[]⟩, .string ⟨#[]⟩, .string ⟨#[]⟩, .int .i64 1, .string hp, .string ⟨#[]⟩, .string ⟨#[122]⟩, .int .i64 0, .string ⟨#[]⟩, .string ⟨#[]⟩]) rfl (by kernel_rfl) (by kernel_rfl) (by kernel_rfl) (fun _ _ _ h => h) (Or.inl ⟨by rfl, fun w hSw => by (try dsimp only at hSw); go_simp⟩) hHeld ?_
          simp only [Act.put, List.setIfInBounds_toArray, List.set_cons_zero, List.set_cons_succ, List.getElem_toArray, List.getElem_cons_succ, List.getElem_cons_zero]
          refine wpAnyH_take (i := 12) (v := .agg #[.int .i64 1, .string ⟨#[120]⟩, .int .i64 0, .string ⟨#[]⟩, .string ⟨#[]⟩, .string ⟨#[]⟩, .int .i64 1, .string hp, .string ⟨#[]⟩, .string ⟨#[122]⟩, .int .i64 0, .string ⟨#[]⟩, .string ⟨#[]⟩, .string ⟨#[]⟩, .int .i64 0, .string ⟨#[]⟩, .string ⟨#[]⟩, .string ⟨#[]⟩, .int .i64 0, .string ⟨#[]⟩, .string ⟨#[]⟩]) rfl (by kernel_rfl) (by kernel_rfl) (by kernel_rfl) (fun _ _ _ h => h) (Or.inl ⟨by rfl, fun w hSw => by (try dsimp only at hSw); go_simp⟩) hHeld ?_
          simp only [Act.put, List.setIfInBounds_toArray, List.set_cons_zero, List.set_cons_succ, List.getElem_toArray, List.getElem_cons_succ, List.getElem_cons_zero]
          refine wpAnyH_ready (rs := [13]) (by kernel_rfl) (by simp) ?_
          refine AllReadyH.cons rfl (fun K hK => ?_) AllReadyH.nil
          rw [if_pos (by rfl)]
          refine wp_buildOne 44 43 _ rfl kL rfl Tryz.underlying44 (by kernel_rfl) (by kernel_rfl) (by decide) (by decide) ?_
          have b13 := b12.alloc b12.size (.cells kL.toArray 43)
          have l13 : (u12.alloc (.cells kL.toArray 43)).rangeAt u12.heap.size 0 kL := range_newK u12
          have e13 : u3.heap.size ≠ u12.heap.size := fun h => by have := q12.lt; omega
          have q13 := q12.next (Below.heap_le u12 (.cells kL.toArray 43))
          refine hK.out _ _ b13 (fun hHeld => ?_)
          clear hK K
          (try simp only [Act.put, List.setIfInBounds_toArray, List.set_cons_zero, List.set_cons_succ, List.getElem_toArray, List.getElem_cons_succ, List.getElem_cons_zero])
          refine wpAnyH_take (i := 14) (v := .agg #[.string ⟨#[120]⟩, .int .i64 0, .string ⟨#[]⟩, .string ⟨#[]⟩, .string ⟨#[]⟩, .int .i64 1, .string hp, .string ⟨#[]⟩, .string ⟨#[121]⟩, .int .i64 0, .string ⟨#[]⟩, .string ⟨#[]⟩, .slice (some ⟨u12.heap.size, 0, none⟩) 1 1]) rfl (by kernel_rfl) (by kernel_rfl) (by kernel_rfl) (fun _ _ _ h => h) (Or.inl ⟨by rfl, fun w hSw => by (try dsimp only at hSw); go_simp⟩) hHeld ?_
          simp only [Act.put, List.setIfInBounds_toArray, List.set_cons_zero, List.set_cons_succ, List.getElem_toArray, List.getElem_cons_succ, List.getElem_cons_zero]
          refine wpAnyH_ready (rs := [16]) (by kernel_rfl) (by simp) ?_
          refine AllReadyH.cons rfl (fun K hK => ?_) AllReadyH.nil
          rw [if_pos (by rfl)]
          refine wp_store_mid 46 _ _ rfl (u3.heap.size) 0 #[.string ⟨#[120]⟩, .int .i64 0, .string ⟨#[]⟩, .string ⟨#[]⟩, .string ⟨#[]⟩, .int .i64 1, .string hp, .string ⟨#[]⟩, .string ⟨#[121]⟩, .int .i64 0, .string ⟨#[]⟩, .string ⟨#[]⟩, .slice (some ⟨u12.heap.size, 0, none⟩) 1 1] rfl rfl q13.there (by kernel_rfl) (by simp [Value.oneCell']) ?_
          have b14 := below_putK b13 q13 b3.size #[.string ⟨#[120]⟩, .int .i64 0, .string ⟨#[]⟩, .string ⟨#[]⟩, .string ⟨#[]⟩, .int .i64 1, .string hp, .string ⟨#[]⟩, .string ⟨#[121]⟩, .int .i64 0, .string ⟨#[]⟩, .string ⟨#[]⟩, .slice (some ⟨u12.heap.size, 0, none⟩) 1 1]
          refine hK.out _ _ b14 (fun hHeld => ?_)
          clear hK K
          (try simp only [Act.put, List.setIfInBounds_toArray, List.set_cons_zero, List.set_cons_succ, List.getElem_toArray, List.getElem_cons_succ, List.getElem_cons_zero])
          refine wpAnyH_done (by kernel_rfl) ?_ _
          clear hHeld
          simp only [Exit.then]
          refine ‹∀ (a' : Act) (w' : World), Met _ a' w' → _› _ _ ?_
          go_meet
          exact ⟨u3.heap.size, u12.heap.size, rfl, World.rangeAt_setCells_same _ _ _ _ q13.there, range_apartK l13 e13 _, b14⟩
        refine AllReadyH.cons rfl (fun K hK => ?_) AllReadyH.nil
        rw [if_pos (by rfl)]
        refine wp_allocT 46 rfl _ _ (run_allocK _) ?_
        have b15 := b2.alloc b2.size (.cells kZ 46)
        have q15 : HasB (u2.alloc (.cells kZ 46)) u2.heap.size kZ := heap_alloc_new _ _
        refine hK.out _ _ b15 (fun hHeld => ?_)
        clear hK K
        (try simp only [Act.put, List.setIfInBounds_toArray, List.set_cons_zero, List.set_cons_succ, List.getElem_toArray, List.getElem_cons_succ, List.getElem_cons_zero])
        refine wpAnyH_ready (rs := [7]) (by kernel_rfl) (by simp) ?_
        refine AllReadyH.cons rfl (fun K hK => ?_) AllReadyH.nil
        go_simp
        refine (knv_any _ _).mono ?_
        rintro e u16 ⟨rfl, k16⟩
        dsimp only
        have b16 := b15.trans (k16.mono b15.size)
        have q16 := q15.next k16
        refine hK.out _ _ b16 (fun hHeld => ?_)
        clear hK K k16
        (try simp only [Act.put, List.setIfInBounds_toArray, List.set_cons_zero, List.set_cons_succ, List.getElem_toArray, List.getElem_cons_succ, List.getElem_cons_zero])
        refine wpAnyH_ready (rs := [10]) (by kernel_rfl) (by simp) ?_
        refine AllReadyH.cons rfl (fun K hK => ?_) AllReadyH.nil
        go_simp
        refine (knv_any _ _).mono ?_
        rintro e u17 ⟨rfl, k17⟩
        dsimp only
        have b17 := b16.trans (k17.mono b16.size)
        have q17 := q16.next k17
        refine hK.out _ _ b17 (fun hHeld => ?_)
        clear hK K k17
        (try simp only [Act.put, List.setIfInBounds_toArray, List.set_cons_zero, List.set_cons_succ, List.getElem_toArray, List.getElem_cons_succ, List.getElem_cons_zero])
        refine wpAnyH_take (i := 11) (v := .agg #[.string ⟨#[120]⟩, .int .i64 0, .string ⟨#[]⟩, .string ⟨#[]⟩, .string ⟨#[]⟩, .int .i64 1, .string hp, .string ⟨#[]⟩, .string ⟨#[122]⟩, .int .i64 0, .string ⟨#[]⟩, .string ⟨#[]⟩]) rfl (by kernel_rfl) (by kernel_rfl) (by kernel_rfl) (fun _ _ _ h => h) (Or.inl ⟨by rfl, fun w hSw => by (try dsimp only at hSw); go_simp⟩) hHeld ?_
        simp only [Act.put, List.setIfInBounds_toArray, List.set_cons_zero, List.set_cons_succ, List.getElem_toArray, List.getElem_cons_succ, List.getElem_cons_zero]
        refine wpAnyH_take (i := 12) (v := .agg #[.int .i64 1, .string ⟨#[120]⟩, .int .i64 0, .string ⟨#[]⟩, .string ⟨#[]⟩, .string ⟨#[]⟩, .int .i64 1, .string hp, .string ⟨#[]⟩, .string ⟨#[122]⟩, .int .i64 0, .string ⟨#[]⟩, .string ⟨#[]⟩, .string ⟨#[]⟩, .int .i64 0, .string ⟨#[]⟩, .string ⟨#[]⟩, .string ⟨#[]⟩, .int .i64 0, .string ⟨#[]⟩, .string ⟨#[]⟩]) rfl (by kernel_rfl) (by kernel_rfl) (by kernel_rfl) (fun _ _ _ h => h) (Or.inl ⟨by rfl, fun w hSw => by (try dsimp only at hSw); go_simp⟩) hHeld ?_
        simp only [Act.put, List.setIfInBounds_toArray, List.set_cons_zero, List.set_cons_succ, List.getElem_toArray, List.getElem_cons_succ, List.getElem_cons_zero]
        refine wpAnyH_ready (rs := [13]) (by kernel_rfl) (by simp) ?_
        refine AllReadyH.cons rfl (fun K hK => ?_) AllReadyH.nil
        rw [if_pos (by rfl)]
        refine wp_buildOne 44 43 _ rfl kL rfl Tryz.underlying44 (by kernel_rfl) (by kernel_rfl) (by decide) (by decide) ?_
        have b18 := b17.alloc b17.size (.cells kL.toArray 43)
        have l18 : (u17.alloc (.cells kL.toArray 43)).rangeAt u17.heap.size 0 kL := range_newK u17
        have e18 : u2.heap.size ≠ u17.heap.size := fun h => by have := q17.lt; omega
        have q18 := q17.next (Below.heap_le u17 (.cells kL.toArray 43))
        refine hK.out _ _ b18 (fun hHeld => ?_)
        clear hK K
        (try simp only [Act.put, List.setIfInBounds_toArray, List.set_cons_zero, List.set_cons_succ, List.getElem_toArray, List.getElem_cons_succ, List.getElem_cons_zero])
        refine wpAnyH_take (i := 14) (v := .agg #[.string ⟨#[120]⟩, .int .i64 0, .string ⟨#[]⟩, .string ⟨#[]⟩, .string ⟨#[]⟩, .int .i64 1, .string hp, .string ⟨#[]⟩, .string ⟨#[121]⟩, .int .i64 0, .string ⟨#[]⟩, .string ⟨#[]⟩, .slice (some ⟨u17.heap.size, 0, none⟩) 1 1]) rfl (by kernel_rfl) (by kernel_rfl) (by kernel_rfl) (fun _ _ _ h => h) (Or.inl ⟨by rfl, fun w hSw => by (try dsimp only at hSw); go_simp⟩) hHeld ?_
        simp only [Act.put, List.setIfInBounds_toArray, List.set_cons_zero, List.set_cons_succ, List.getElem_toArray, List.getElem_cons_succ, List.getElem_cons_zero]
        refine wpAnyH_ready (rs := [16]) (by kernel_rfl) (by simp) ?_
        refine AllReadyH.cons rfl (fun K hK => ?_) AllReadyH.nil
        rw [if_pos (by rfl)]
        refine wp_store_mid 46 _ _ rfl (u2.heap.size) 0 #[.string ⟨#[120]⟩, .int .i64 0, .string ⟨#[]⟩, .string ⟨#[]⟩, .string ⟨#[]⟩, .int .i64 1, .string hp, .string ⟨#[]⟩, .string ⟨#[121]⟩, .int .i64 0, .string ⟨#[]⟩, .string ⟨#[]⟩, .slice (some ⟨u17.heap.size, 0, none⟩) 1 1] rfl rfl q18.there (by kernel_rfl) (by simp [Value.oneCell']) ?_
        have b19 := below_putK b18 q18 b2.size #[.string ⟨#[120]⟩, .int .i64 0, .string ⟨#[]⟩, .string ⟨#[]⟩, .string ⟨#[]⟩, .int .i64 1, .string hp, .string ⟨#[]⟩, .string ⟨#[121]⟩, .int .i64 0, .string ⟨#[]⟩, .string ⟨#[]⟩, .slice (some ⟨u17.heap.size, 0, none⟩) 1 1]
        refine hK.out _ _ b19 (fun hHeld => ?_)
        clear hK K
        (try simp only [Act.put, List.setIfInBounds_toArray, List.set_cons_zero, List.set_cons_succ, List.getElem_toArray, List.getElem_cons_succ, List.getElem_cons_zero])
        refine wpAnyH_done (by kernel_rfl) ?_ _
        clear hHeld
        simp only [Exit.then]
        refine ‹∀ (a' : Act) (w' : World), Met _ a' w' → _› _ _ ?_
        go_meet
        exact ⟨u2.heap.size, u17.heap.size, rfl, World.rangeAt_setCells_same _ _ _ _ q18.there, range_apartK l18 e18 _, b19⟩
      refine AllReadyH.cons rfl (fun K hK => ?_) AllReadyH.nil
      rw [if_pos (by rfl)]
      refine wp_allocT 46 rfl _ _ (run_allocK _) ?_
      have b20 := b1.alloc b1.size (.cells kZ 46)
      have q20 : HasB (u1.alloc (.cells kZ 46)) u1.heap.size kZ := heap_alloc_new _ _
      refine hK.out _ _ b20 (fun hHeld => ?_)
      clear hK K
      (try simp only [Act.put, List.setIfInBounds_toArray, List.set_cons_zero, List.set_cons_succ, List.getElem_toArray, List.getElem_cons_succ, List.getElem_cons_zero])
      refine wpAnyH_ready (rs := [4]) (by kernel_rfl) (by simp) ?_
      refine AllReadyH.cons rfl (fun K hK => ?_) AllReadyH.nil
      go_simp
      refine (knv_any _ _).mono ?_
      rintro e u21 ⟨rfl, k21⟩
      dsimp only
      have b21 := b20.trans (k21.mono b20.size)
      have q21 := q20.next k21
      refine hK.out _ _ b21 (fun hHeld => ?_)
      clear hK K k21
      (try simp only [Act.put, List.setIfInBounds_toArray, List.set_cons_zero, List.set_cons_succ, List.getElem_toArray, List.getElem_cons_succ, List.getElem_cons_zero])
      refine wpAnyH_take (i := 5) (v := .agg #[.string ⟨#[120]⟩, .int .i64 0, .string ⟨#[]⟩, .string ⟨#[]⟩, .string ⟨#[]⟩, .int .i64 1, .string hp, .string ⟨#[]⟩, .string ⟨#[121]⟩, .int .i64 0, .string ⟨#[]⟩, .string ⟨#[]⟩]) rfl (by kernel_rfl) (by kernel_rfl) (by kernel_rfl) (fun _ _ _ h => h) (Or.inl ⟨by rfl, fun w hSw => by (try dsimp only at hSw); go_simp⟩) hHeld ?_
      simp only [Act.put, List.setIfInBounds_toArray, List.set_cons_zero, List.set_cons_succ, List.getElem_toArray, List.getElem_cons_succ, List.getElem_cons_zero]
      refine wpAnyH_ready (rs := [7]) (by kernel_rfl) (by simp) ?_
      refine AllReadyH.cons rfl (fun K hK => ?_) AllReadyH.nil
      go_simp
      refine (knv_any _ _).mono ?_
      rintro e u22 ⟨rfl, k22⟩
      dsimp only
      have b22 := b21.trans (k22.mono b21.size)
      have q22 := q21.next k22
      refine hK.out _ _ b22 (fun hHeld => ?_)
      clear hK K k22
      (try simp only [Act.put, List.setIfInBounds_toArray, List.set_cons_zero, List.set_cons_succ, List.getElem_toArray, List.getElem_cons_succ, List.getElem_cons_zero])
      refine wpAnyH_ready (rs := [10]) (by kernel_rfl) (by simp) ?_
      refine AllReadyH.cons rfl (fun K hK => ?_) AllReadyH.nil
      go_simp
      refine (knv_any _ _).mono ?_
      rintro e u23 ⟨rfl, k23⟩
      dsimp only
      have b23 := b22.trans (k23.mono b22.size)
      have q23 := q22.next k23
      refine hK.out _ _ b23 (fun hHeld => ?_)
      clear hK K k23
      (try simp only [Act.put, List.setIfInBounds_toArray, List.set_cons_zero, List.set_cons_succ, List.getElem_toArray, List.getElem_cons_succ, List.getElem_cons_zero])
      refine wpAnyH_take (i := 11) (v := .agg #[.string ⟨#[120]⟩, .int .i64 0, .string ⟨#[]⟩, .string ⟨#[]⟩, .string ⟨#[]⟩, .int .i64 1, .string hp, .string ⟨#[]⟩, .string ⟨#[122]⟩, .int .i64 0, .string ⟨#[]⟩, .string ⟨#[]⟩]) rfl (by kernel_rfl) (by kernel_rfl) (by kernel_rfl) (fun _ _ _ h => h) (Or.inl ⟨by rfl, fun w hSw => by (try dsimp only at hSw); go_simp⟩) hHeld ?_
      simp only [Act.put, List.setIfInBounds_toArray, List.set_cons_zero, List.set_cons_succ, List.getElem_toArray, List.getElem_cons_succ, List.getElem_cons_zero]
      refine wpAnyH_take (i := 12) (v := .agg #[.int .i64 1, .string ⟨#[120]⟩, .int .i64 0, .string ⟨#[]⟩, .string ⟨#[]⟩, .string ⟨#[]⟩, .int .i64 1, .string hp, .string ⟨#[]⟩, .string ⟨#[122]⟩, .int .i64 0, .string ⟨#[]⟩, .string ⟨#[]⟩, .string ⟨#[]⟩, .int .i64 0, .string ⟨#[]⟩, .string ⟨#[]⟩, .string ⟨#[]⟩, .int .i64 0, .string ⟨#[]⟩, .string ⟨#[]⟩]) rfl (by kernel_rfl) (by kernel_rfl) (by kernel_rfl) (fun _ _ _ h => h) (Or.inl ⟨by rfl, fun w hSw => by (try dsimp only at hSw); go_simp⟩) hHeld ?_
      simp only [Act.put, List.setIfInBounds_toArray, List.set_cons_zero, List.set_cons_succ, List.getElem_toArray, List.getElem_cons_succ, List.getElem_cons_zero]
      refine wpAnyH_ready (rs := [13]) (by kernel_rfl) (by simp) ?_
      refine AllReadyH.cons rfl (fun K hK => ?_) AllReadyH.nil
      rw [if_pos (by rfl)]
      refine wp_buildOne 44 43 _ rfl kL rfl Tryz.underlying44 (by kernel_rfl) (by kernel_rfl) (by decide) (by decide) ?_
      have b24 := b23.alloc b23.size (.cells kL.toArray 43)
      have l24 : (u23.alloc (.cells kL.toArray 43)).rangeAt u23.heap.size 0 kL := range_newK u23
      have e24 : u1.heap.size ≠ u23.heap.size := fun h => by have := q23.lt; omega
      have q24 := q23.next (Below.heap_le u23 (.cells kL.toArray 43))
      refine hK.out _ _ b24 (fun hHeld => ?_)
      clear hK K
      (try simp only [Act.put, List.setIfInBounds_toArray, List.set_cons_zero, List.set_cons_succ, List.getElem_toArray, List.getElem_cons_succ, List.getElem_cons_zero])
      refine wpAnyH_take (i := 14) (v := .agg #[.string ⟨#[120]⟩, .int .i64 0, .string ⟨#[]⟩, .string ⟨#[]⟩, .string ⟨#[]⟩, .int .i64 1, .string hp, .string ⟨#[]⟩, .string ⟨#[121]⟩, .int .i64 0, .string ⟨#[]⟩, .string ⟨#[]⟩, .slice (some ⟨u23.heap.size, 0, none⟩) 1 1]) rfl (by kernel_rfl) (by kernel_rfl) (by kernel_rfl) (fun _ _ _ h => h) (Or.inl ⟨by rfl, fun w hSw => by (try dsimp only at hSw); go_simp⟩) hHeld ?_
      simp only [Act.put, List.setIfInBounds_toArray, List.set_cons_zero, List.set_cons_succ, List.getElem_toArray, List.getElem_cons_succ, List.getElem_cons_zero]
      refine wpAnyH_ready (rs := [16]) (by kernel_rfl) (by simp) ?_
      refine AllReadyH.cons rfl (fun K hK => ?_) AllReadyH.nil
      rw [if_pos (by rfl)]
      refine wp_store_mid 46 _ _ rfl (u1.heap.size) 0 #[.string ⟨#[120]⟩, .int .i64 0, .string ⟨#[]⟩, .string ⟨#[]⟩, .string ⟨#[]⟩, .int .i64 1, .string hp, .string ⟨#[]⟩, .string ⟨#[121]⟩, .int .i64 0, .string ⟨#[]⟩, .string ⟨#[]⟩, .slice (some ⟨u23.heap.size, 0, none⟩) 1 1] rfl rfl q24.there (by kernel_rfl) (by simp [Value.oneCell']) ?_
      have b25 := below_putK b24 q24 b1.size #[.string ⟨#[120]⟩, .int .i64 0, .string ⟨#[]⟩, .string ⟨#[]⟩, .string ⟨#[]⟩, .int .i64 1, .string hp, .string ⟨#[]⟩, .string ⟨#[121]⟩, .int .i64 0, .string ⟨#[]⟩, .string ⟨#[]⟩, .slice (some ⟨u23.heap.size, 0, none⟩) 1 1]
      refine hK.out _ _ b25 (fun hHeld => ?_)
      clear hK K
      (try simp only [Act.put, List.setIfInBounds_toArray, List.set_cons_zero, List.set_cons_succ, List.getElem_toArray, List.getElem_cons_succ, List.getElem_cons_zero])
      refine wpAnyH_done (by kernel_rfl) ?_ _
      clear hHeld
      simp only [Exit.then]
      refine ‹∀ (a' : Act) (w' : World), Met _ a' w' → _› _ _ ?_
      go_meet
      exact ⟨u1.heap.size, u23.heap.size, rfl, World.rangeAt_setCells_same _ _ _ _ q24.there, range_apartK l24 e24 _, b25⟩
    refine AllReadyH.cons rfl (fun K hK => ?_) AllReadyH.nil
    rw [if_pos (by rfl)]
    refine wp_allocT 46 rfl _ _ (run_allocK _) ?_
    have b26 := b0.alloc b0.size (.cells kZ 46)
    have q26 : HasB (W.drew.alloc (.cells kZ 46)) W.drew.heap.size kZ := heap_alloc_new _ _
    refine hK.out _ _ b26 (fun hHeld => ?_)
    clear hK K
    (try simp only [Act.put, List.setIfInBounds_toArray, List.set_cons_zero, List.set_cons_succ, List.getElem_toArray, List.getElem_cons_succ, List.getElem_cons_zero])
    refine wpAnyH_ready (rs := [1]) (by kernel_rfl) (by simp) ?_
    refine AllReadyH.cons rfl (fun K hK => ?_) AllReadyH.nil
    go_simp
    refine (knv_any _ _).mono ?_
    rintro e u27 ⟨rfl, k27⟩
    dsimp only
    have b27 := b26.trans (k27.mono b26.size)
    have q27 := q26.next k27
    refine hK.out _ _ b27 (fun hHeld => ?_)
    clear hK K k27
    (try simp only [Act.put, List.setIfInBounds_toArray, List.set_cons_zero, List.set_cons_succ, List.getElem_toArray, List.getElem_cons_succ, List.getElem_cons_zero])
    refine wpAnyH_ready (rs := [4]) (by kernel_rfl) (by simp) ?_
    refine AllReadyH.cons rfl (fun K hK => ?_) AllReadyH.nil
    go_simp
    refine (knv_any _ _).mono ?_
    rintro e u28 ⟨rfl, k28⟩
    dsimp only
    have b28 := b27.trans (k28.mono b27.size)
    have q28 := q27.next k28
    refine hK.out _ _ b28 (fun hHeld => ?_)
    clear hK K k28
    (try simp only [Act.put, List.setIfInBounds_toArray, List.set_cons_zero, List.set_cons_succ, List.getElem_toArray, List.getElem_cons_succ, List.getElem_cons_zero])
    refine wpAnyH_take (i := 5) (v := .agg #[.string ⟨#[120]⟩, .int .i64 0, .string ⟨#[]⟩, .string ⟨#[]⟩, .string ⟨#[]⟩, .int .i64 1, .string hp, .string ⟨#[]⟩, .string ⟨#[121]⟩, .int .i64 0, .string ⟨#[]⟩, .string ⟨#[]⟩]) rfl (by kernel_rfl) (by kernel_rfl) (by kernel_rfl) (fun _ _ _ h => h) (Or.inl ⟨by rfl, fun w hSw => by (try dsimp only at hSw); go_simp⟩) hHeld ?_
    simp only [Act.put, List.setIfInBounds_toArray, List.set_cons_zero, List.set_cons_succ, List.getElem_toArray, List.getElem_cons_succ, List.getElem_cons_zero]
    refine wpAnyH_ready (rs := [7]) (by kernel_rfl) (by simp) ?_
    refine AllReadyH.cons rfl (fun K hK => ?_) AllReadyH.nil
    go_simp
    refine (knv_any _ _).mono ?_
    rintro e u29 ⟨rfl, k29⟩
    dsimp only
    have b29 := b28.trans (k29.mono b28.size)
    have q29 := q28.next k29
    refine hK.out _ _ b29 (fun hHeld => ?_)
    clear hK K k29
    (try simp only [Act.put, List.setIfInBounds_toArray, List.set_cons_zero, List.set_cons_succ, List.getElem_toArray, List.getElem_cons_succ, List.getElem_cons_zero])
    refine wpAnyH_ready (rs := [10]) (by kernel_rfl) (by simp) ?_
    refine AllReadyH.cons rfl (fun K hK => ?_) AllReadyH.nil
    go_simp
    refine (knv_any _ _).mono ?_
    rintro e u30 ⟨rfl, k30⟩
    dsimp only
    have b30 := b29.trans (k30.mono b29.size)
    have q30 := q29.next k30
    refine hK.out _ _ b30 (fun hHeld => ?_)
    clear hK K k30
    (try simp only [Act.put, List.setIfInBounds_toArray, List.set_cons_zero, List.set_cons_succ, List.getElem_toArray, List.getElem_cons_succ, List.getElem_cons_zero])
    refine wpAnyH_take (i := 11) (v := .agg #[.string ⟨#[120]⟩, .int .i64 0, .string ⟨#[]⟩, .string ⟨#[]⟩, .string ⟨#[]⟩, .int .i64 1, .string hp, .string ⟨#[]⟩, .string ⟨#[122]⟩, .int .i64 0, .string ⟨#[]⟩, .string ⟨#[]⟩]) rfl (by kernel_rfl) (by kernel_rfl) (by kernel_rfl) (fun _ _ _ h => h) (Or.inl ⟨by rfl, fun w hSw => by (try dsimp only at hSw); go_simp⟩) hHeld ?_
    simp only [Act.put, List.setIfInBounds_toArray, List.set_cons_zero, List.set_cons_succ, List.getElem_toArray, List.getElem_cons_succ, List.getElem_cons_zero]
    refine wpAnyH_take (i := 12) (v := .agg #[.int .i64 1, .string ⟨#[120]⟩, .int .i64 0, .string ⟨#[]⟩, .string ⟨#[]⟩, .string ⟨#[]⟩, .int .i64 1, .string hp, .string ⟨#[]⟩, .string ⟨#[122]⟩, .int .i64 0, .string ⟨#[]⟩, .string ⟨#[]⟩, .string ⟨#[]⟩, .int .i64 0, .string ⟨#[]⟩, .string ⟨#[]⟩, .string ⟨#[]⟩, .int .i64 0, .string ⟨#[]⟩, .string ⟨#[]⟩]) rfl (by kernel_rfl) (by kernel_rfl) (by kernel_rfl) (fun _ _ _ h => h) (Or.inl ⟨by rfl, fun w hSw => by (try dsimp only at hSw); go_simp⟩) hHeld ?_
    simp only [Act.put, List.setIfInBounds_toArray, List.set_cons_zero, List.set_cons_succ, List.getElem_toArray, List.getElem_cons_succ, List.getElem_cons_zero]
    refine wpAnyH_ready (rs := [13]) (by kernel_rfl) (by simp) ?_
    refine AllReadyH.cons rfl (fun K hK => ?_) AllReadyH.nil
    rw [if_pos (by rfl)]
    refine wp_buildOne 44 43 _ rfl kL rfl Tryz.underlying44 (by kernel_rfl) (by kernel_rfl) (by decide) (by decide) ?_
    have b31 := b30.alloc b30.size (.cells kL.toArray 43)
    have l31 : (u30.alloc (.cells kL.toArray 43)).rangeAt u30.heap.size 0 kL := range_newK u30
    have e31 : W.drew.heap.size ≠ u30.heap.size := fun h => by have := q30.lt; omega
    have q31 := q30.next (Below.heap_le u30 (.cells kL.toArray 43))
    refine hK.out _ _ b31 (fun hHeld => ?_)
    clear hK K
    (try simp only [Act.put, List.setIfInBounds_toArray, List.set_cons_zero, List.set_cons_succ, List.getElem_toArray, List.getElem_cons_succ, List.getElem_cons_zero])
    refine wpAnyH_take (i := 14) (v := .agg #[.string ⟨#[120]⟩, .int .i64 0, .string ⟨#[]⟩, .string ⟨#[]⟩, .string ⟨#[]⟩, .int .i64 1, .string hp, .string ⟨#[]⟩, .string ⟨#[121]⟩, .int .i64 0, .string ⟨#[]⟩, .string ⟨#[]⟩, .slice (some ⟨u30.heap.size, 0, none⟩) 1 1]) rfl (by kernel_rfl) (by kernel_rfl) (by kernel_rfl) (fun _ _ _ h => h) (Or.inl ⟨by rfl, fun w hSw => by (try dsimp only at hSw); go_simp⟩) hHeld ?_
    simp only [Act.put, List.setIfInBounds_toArray, List.set_cons_zero, List.set_cons_succ, List.getElem_toArray, List.getElem_cons_succ, List.getElem_cons_zero]
    refine wpAnyH_ready (rs := [16]) (by kernel_rfl) (by simp) ?_
    refine AllReadyH.cons rfl (fun K hK => ?_) AllReadyH.nil
    rw [if_pos (by rfl)]
    refine wp_store_mid 46 _ _ rfl (W.drew.heap.size) 0 #[.string ⟨#[120]⟩, .int .i64 0, .string ⟨#[]⟩, .string ⟨#[]⟩, .string ⟨#[]⟩, .int .i64 1, .string hp, .string ⟨#[]⟩, .string ⟨#[121]⟩, .int .i64 0, .string ⟨#[]⟩, .string ⟨#[]⟩, .slice (some ⟨u30.heap.size, 0, none⟩) 1 1] rfl rfl q31.there (by kernel_rfl) (by simp [Value.oneCell']) ?_
    have b32 := below_putK b31 q31 b0.size #[.string ⟨#[120]⟩, .int .i64 0, .string ⟨#[]⟩, .string ⟨#[]⟩, .string ⟨#[]⟩, .int .i64 1, .string hp, .string ⟨#[]⟩, .string ⟨#[121]⟩, .int .i64 0, .string ⟨#[]⟩, .string ⟨#[]⟩, .slice (some ⟨u30.heap.size, 0, none⟩) 1 1]
    refine hK.out _ _ b32 (fun hHeld => ?_)
    clear hK K
    (try simp only [Act.put, List.setIfInBounds_toArray, List.set_cons_zero, List.set_cons_succ, List.getElem_toArray, List.getElem_cons_succ, List.getElem_cons_zero])
    refine wpAnyH_done (by kernel_rfl) ?_ _
    clear hHeld
    simp only [Exit.then]
    refine ‹∀ (a' : Act) (w' : World), Met _ a' w' → _› _ _ ?_
    go_meet
    exact ⟨W.drew.heap.size, u30.heap.size, rfl, World.rangeAt_setCells_same _ _ _ _ q31.there, range_apartK l31 e31 _, b32⟩
  case rest =>
    obtain ⟨U3, hU3⟩ : ∃ U, U = wc := ⟨_, rfl⟩
    subst hU3
    obtain ⟨g, b, rfl, hG, hL, hB3⟩ := hcut
    have HX3 : Hid (∀ U, Below U3.heap.size U3 U → U.cell? ⟨n0, 0, none⟩ = some (.string ⟨#[]⟩) ∧ U.cell? ⟨n0, 1, none⟩ = some (.int .i64 1) ∧ U.cell? ⟨n0, 2, none⟩ = some (.string hp) ∧ U.cell? ⟨n0, 3, none⟩ = some (.string ⟨#[]⟩) ∧ U.cell? ⟨g, 12, none⟩ = some (.slice (some ⟨b, 0, none⟩) 1 1)) := Lib.hid (fun U hU => by
      obtain ⟨x0, x1, x2, x3⟩ := HX.out U (hB3.trans (hU.mono hB3.size))
      exact ⟨x0, x1, x2, x3, belowR hG hU 12 _ rfl⟩)
    have HG := Lib.hid hG
    have HL := Lib.hid hL
    have HB3 := Lib.hid hB3
    clear hG hL hB3
    go_upto_region 4 with fail
    go_cut [4] (fun s4 U4 => KnB U3 b s4 U4)
    case first =>
      refine wp_region_held_drew (S := fun U : World => Below U3.heap.size U3 U) (by kernel_rfl) ((Below.refl _ _).drew) (fun hHeld => ?_)
      have b0 := (Below.refl U3.heap.size U3).drew
      refine wpAnyH_take (i := 0) (v := .func (.func 12) #[] #[]) rfl (by kernel_rfl) (by kernel_rfl) (by kernel_rfl) (fun _ _ _ h => h) (Or.inl ⟨by rfl, fun w hSw => by (try dsimp only at hSw); go_simp⟩) hHeld ?_
      simp only [Act.put, List.setIfInBounds_toArray, List.set_cons_zero, List.set_cons_succ, List.getElem_toArray, List.getElem_cons_succ, List.getElem_cons_zero]
      refine wpAnyH_take (i := 2) (v := .agg #[.string ⟨#[]⟩, .int .i64 1, .string hp, .string ⟨#[]⟩]) rfl (by kernel_rfl) (by kernel_rfl) (by kernel_rfl) (fun _ _ _ h => h) (Or.inl ⟨by rfl, fun w hSw => by (try dsimp only at hSw); obtain ⟨x0, x1, x2, x3, x12⟩ := HX3.out _ hSw; go_simp⟩) hHeld ?_
      simp only [Act.put, List.setIfInBounds_toArray, List.set_cons_zero, List.set_cons_succ, List.getElem_toArray, List.getElem_cons_succ, List.getElem_cons_zero]
      refine wpAnyH_take (i := 3) (v := .func (.func 12) #[] #[]) rfl (by kernel_rfl) (by kernel_rfl) (by kernel_rfl) (fun _ _ _ h => h) (Or.inl ⟨by rfl, fun w hSw => by (try dsimp only at hSw); go_simp⟩) hHeld ?_
      simp only [Act.put, List.setIfInBounds_toArray, List.set_cons_zero, List.set_cons_succ, List.getElem_toArray, List.getElem_cons_succ, List.getElem_cons_zero]
      refine wpAnyH_take (i := 6) (v := .pointer (some ⟨g, 12, none⟩)) rfl (by kernel_rfl) (by kernel_rfl) (by kernel_rfl) (fun _ _ _ h => h) (Or.inl ⟨by rfl, fun w hSw => by (try dsimp only at hSw); go_simp⟩) hHeld ?_
      simp only [Act.put, List.setIfInBounds_toArray, List.set_cons_zero, List.set_cons_succ, List.getElem_toArray, List.getElem_cons_succ, List.getElem_cons_zero]
      refine wpAnyH_take (i := 7) (v := .slice (some ⟨b, 0, none⟩) 1 1) rfl (by kernel_rfl) (by kernel_rfl) (by kernel_rfl) (fun _ _ _ h => h) (Or.inl ⟨by rfl, fun w hSw => by (try dsimp only at hSw); obtain ⟨x0, x1, x2, x3, x12⟩ := HX3.out _ hSw; go_simp⟩) hHeld ?_
      simp only [Act.put, List.setIfInBounds_toArray, List.set_cons_zero, List.set_cons_succ, List.getElem_toArray, List.getElem_cons_succ, List.getElem_cons_zero]
      refine wpAnyH_ready (rs := [1, 9]) (by kernel_rfl) (by simp) ?_
      refine AllReadyH.cons rfl (fun K hK => ?_) ?_
      · go_simp
        refine (knv_any _ _).mono ?_
        rintro e u33 ⟨rfl, k33⟩
        dsimp only
        have b33 := b0.trans (k33.mono b0.size)
        refine hK.out _ _ b33 (fun hHeld => ?_)
        clear hK K k33
        (try simp only [Act.put, List.setIfInBounds_toArray, List.set_cons_zero, List.set_cons_succ, List.getElem_toArray, List.getElem_cons_succ, List.getElem_cons_zero])
        refine wpAnyH_ready (rs := [4, 9]) (by kernel_rfl) (by simp) ?_
        refine AllReadyH.cons rfl (fun K hK => ?_) ?_
        · go_simp
          refine (knv_any _ _).mono ?_
          rintro e u34 ⟨rfl, k34⟩
          dsimp only
          have b34 := b33.trans (k34.mono b33.size)
          refine hK.out _ _ b34 (fun hHeld => ?_)
          clear hK K k34
          (try simp only [Act.put, List.setIfInBounds_toArray, List.set_cons_zero, List.set_cons_succ, List.getElem_toArray, List.getElem_cons_succ, List.getElem_cons_zero])
          refine wpAnyH_take (i := 5) (v := .agg #[.string ⟨#[120]⟩, .int .i64 0, .string ⟨#[]⟩, .string ⟨#[]⟩, .string ⟨#[]⟩, .int .i64 1, .string hp, .string ⟨#[]⟩, .string ⟨#[122]⟩, .int .i64 0, .string ⟨#[]⟩, .string ⟨#[]⟩]) rfl (by kernel_rfl) (by kernel_rfl) (by kernel_rfl) (fun _ _ _ h => h) (Or.inl ⟨by rfl, fun w hSw => by (try dsimp only at hSw); go_simp⟩) hHeld ?_
          simp only [Act.put, List.setIfInBounds_toArray, List.set_cons_zero, List.set_cons_succ, List.getElem_toArray, List.getElem_cons_succ, List.getElem_cons_zero]
          refine wpAnyH_take (i := 8) (v := .agg #[.string ⟨#[120]⟩, .int .i64 0, .string ⟨#[]⟩, .string ⟨#[]⟩, .string ⟨#[]⟩, .int .i64 1, .string hp, .string ⟨#[]⟩, .string ⟨#[122]⟩, .int .i64 0, .string ⟨#[]⟩, .string ⟨#[]⟩, .slice (some ⟨b, 0, none⟩) 1 1]) rfl (by kernel_rfl) (by kernel_rfl) (by kernel_rfl) (fun _ _ _ h => h) (Or.inl ⟨by rfl, fun w hSw => by (try dsimp only at hSw); go_simp⟩) hHeld ?_
          simp only [Act.put, List.setIfInBounds_toArray, List.set_cons_zero, List.set_cons_succ, List.getElem_toArray, List.getElem_cons_succ, List.getElem_cons_zero]
          refine wpAnyH_ready (rs := [9]) (by kernel_rfl) (by simp) ?_
          refine AllReadyH.cons rfl (fun K hK => ?_) AllReadyH.nil
          rw [if_pos (by rfl)]
          refine wp_allocT 46 rfl _ _ (run_allocK _) ?_
          have b35 := b34.alloc b34.size (.cells kZ 46)
          have q35 : HasB (u34.alloc (.cells kZ 46)) u34.heap.size kZ := heap_alloc_new _ _
          refine hK.out _ _ b35 (fun hHeld => ?_)
          clear hK K
          (try simp only [Act.put, List.setIfInBounds_toArray, List.set_cons_zero, List.set_cons_succ, List.getElem_toArray, List.getElem_cons_succ, List.getElem_cons_zero])
          refine wpAnyH_ready (rs := [10]) (by kernel_rfl) (by simp) ?_
          refine AllReadyH.cons rfl (fun K hK => ?_) AllReadyH.nil
          rw [if_pos (by rfl)]
          refine wp_store_mid 46 _ _ rfl (u34.heap.size) 0 #[.string ⟨#[120]⟩, .int .i64 0, .string ⟨#[]⟩, .string ⟨#[]⟩, .string ⟨#[]⟩, .int .i64 1, .string hp, .string ⟨#[]⟩, .string ⟨#[122]⟩, .int .i64 0, .string ⟨#[]⟩, .string ⟨#[]⟩, .slice (some ⟨b, 0, none⟩) 1 1] rfl rfl q35.there (by kernel_rfl) (by simp [Value.oneCell']) ?_
          have b36 := below_putK b35 q35 b34.size #[.string ⟨#[120]⟩, .int .i64 0, .string ⟨#[]⟩, .string ⟨#[]⟩, .string ⟨#[]⟩, .int .i64 1, .string hp, .string ⟨#[]⟩, .string ⟨#[122]⟩, .int .i64 0, .string ⟨#[]⟩, .string ⟨#[]⟩, .slice (some ⟨b, 0, none⟩) 1 1]
          refine hK.out _ _ b36 (fun hHeld => ?_)
          clear hK K
          (try simp only [Act.put, List.setIfInBounds_toArray, List.set_cons_zero, List.set_cons_succ, List.getElem_toArray, List.getElem_cons_succ, List.getElem_cons_zero])
          refine wpAnyH_done (by kernel_rfl) ?_ _
          clear hHeld
          simp only [Exit.then]
          refine ‹∀ (a' : Act) (w' : World), Met _ a' w' → _› _ _ ?_
          go_meet
          exact ⟨u34.heap.size, rfl, World.rangeAt_setCells_same _ _ _ _ q35.there, b36⟩
        refine AllReadyH.cons rfl (fun K hK => ?_) AllReadyH.nil
        rw [if_pos (by rfl)]
        refine wp_allocT 46 rfl _ _ (run_allocK _) ?_
        have b37 := b33.alloc b33.size (.cells kZ 46)
        have q37 : HasB (u33.alloc (.cells kZ 46)) u33.heap.size kZ := heap_alloc_new _ _
        refine hK.out _ _ b37 (fun hHeld => ?_)
        clear hK K
        (try simp only [Act.put, List.setIfInBounds_toArray, List.set_cons_zero, List.set_cons_succ, List.getElem_toArray, List.getElem_cons_succ, List.getElem_cons_zero])
        refine wpAnyH_ready (rs := [4]) (by kernel_rfl) (by simp) ?_
        refine AllReadyH.cons rfl (fun K hK => ?_) AllReadyH.nil
        go_simp
        refine (knv_any _ _).mono ?_
        rintro e u38 ⟨rfl, k38⟩
        dsimp only
        have b38 := b37.trans (k38.mono b37.size)
        have q38 := q37.next k38
        refine hK.out _ _ b38 (fun hHeld => ?_)
        clear hK K k38
        (try simp only [Act.put, List.setIfInBounds_toArray, List.set_cons_zero, List.set_cons_succ, List.getElem_toArray, List.getElem_cons_succ, List.getElem_cons_zero])
        refine wpAnyH_take (i := 5) (v := .agg #[.string ⟨#[120]⟩, .int .i64 0, .string ⟨#[]⟩, .string ⟨#[]⟩, .string ⟨#[]⟩, .int .i64 1, .string hp, .string ⟨#[]⟩, .string ⟨#[122]⟩, .int .i64 0, .string ⟨#[]⟩, .string ⟨#[]⟩]) rfl (by kernel_rfl) (by kernel_rfl) (by kernel_rfl) (fun _ _ _ h => h) (Or.inl ⟨by rfl, fun w hSw => by (try dsimp only at hSw); go_simp⟩) hHeld ?_
        simp only [Act.put, List.setIfInBounds_toArray, List.set_cons_zero, List.set_cons_succ, List.getElem_toArray, List.getElem_cons_succ, List.getElem_cons_zero]
        refine wpAnyH_take (i := 8) (v := .agg #[.string ⟨#[120]⟩, .int .i64 0, .string ⟨#[]⟩, .string ⟨#[]⟩, .string ⟨#[]⟩, .int .i64 1, .string hp, .string ⟨#[]⟩, .string ⟨#[122]⟩, .int .i64 0, .string ⟨#[]⟩, .string ⟨#[]⟩, .slice (some ⟨b, 0, none⟩) 1 1]) rfl (by kernel_rfl) (by kernel_rfl) (by kernel_rfl) (fun _ _ _ h => h) (Or.inl ⟨by rfl, fun w hSw => by (try dsimp only at hSw); go_simp⟩) hHeld ?_
        simp only [Act.put, List.setIfInBounds_toArray, List.set_cons_zero, List.set_cons_succ, List.getElem_toArray, List.getElem_cons_succ, List.getElem_cons_zero]
        refine wpAnyH_ready (rs := [10]) (by kernel_rfl) (by simp) ?_
        refine AllReadyH.cons rfl (fun K hK => ?_) AllReadyH.nil
        rw [if_pos (by rfl)]
        refine wp_store_mid 46 _ _ rfl (u33.heap.size) 0 #[.string ⟨#[120]⟩, .int .i64 0, .string ⟨#[]⟩, .string ⟨#[]⟩, .string ⟨#[]⟩, .int .i64 1, .string hp, .string ⟨#[]⟩, .string ⟨#[122]⟩, .int .i64 0, .string ⟨#[]⟩, .string ⟨#[]⟩, .slice (some ⟨b, 0, none⟩) 1 1] rfl rfl q38.there (by kernel_rfl) (by simp [Value.oneCell']) ?_
        have b39 := below_putK b38 q38 b33.size #[.string ⟨#[120]⟩, .int .i64 0, .string ⟨#[]⟩, .string ⟨#[]⟩, .string ⟨#[]⟩, .int .i64 1, .string hp, .string ⟨#[]⟩, .string ⟨#[122]⟩, .int .i64 0, .string ⟨#[]⟩, .string ⟨#[]⟩, .slice (some ⟨b, 0, none⟩) 1 1]
        refine hK.out _ _ b39 (fun hHeld => ?_)
        clear hK K
        (try simp only [Act.put, List.setIfInBounds_toArray, List.set_cons_zero, List.set_cons_succ, List.getElem_toArray, List.getElem_cons_succ, List.getElem_cons_zero])
        refine wpAnyH_done (by kernel_rfl) ?_ _
        clear hHeld
        simp only [Exit.then]
        refine ‹∀ (a' : Act) (w' : World), Met _ a' w' → _› _ _ ?_
        go_meet
        exact ⟨u33.heap.size, rfl, World.rangeAt_setCells_same _ _ _ _ q38.there, b39⟩
      refine AllReadyH.cons rfl (fun K hK => ?_) AllReadyH.nil
      rw [if_pos (by rfl)]
      refine wp_allocT 46 rfl _ _ (run_allocK _) ?_
      have b40 := b0.alloc b0.size (.cells kZ 46)
      have q40 : HasB (U3.drew.alloc (.cells kZ 46)) U3.drew.heap.size kZ := heap_alloc_new _ _
      refine hK.out _ _ b40 (fun hHeld => ?_)
      clear hK K
      (try simp only [Act.put, List.setIfInBounds_toArray, List.set_cons_zero, List.set_cons_succ, List.getElem_toArray, List.getElem_cons_succ, List.getElem_cons_zero])
      refine wpAnyH_ready (rs := [1]) (by kernel_rfl) (by simp) ?_
      refine AllReadyH.cons rfl (fun K hK => ?_) AllReadyH.nil
      go_simp
      refine (knv_any _ _).mono ?_
      rintro e u41 ⟨rfl, k41⟩
      dsimp only
      have b41 := b40.trans (k41.mono b40.size)
      have q41 := q40.next k41
      refine hK.out _ _ b41 (fun hHeld => ?_)
      clear hK K k41
      (try simp only [Act.put, List.setIfInBounds_toArray, List.set_cons_zero, List.set_cons_succ, List.getElem_toArray, List.getElem_cons_succ, List.getElem_cons_zero])
      refine wpAnyH_ready (rs := [4]) (by kernel_rfl) (by simp) ?_
      refine AllReadyH.cons rfl (fun K hK => ?_) AllReadyH.nil
      go_simp
      refine (knv_any _ _).mono ?_
      rintro e u42 ⟨rfl, k42⟩
      dsimp only
      have b42 := b41.trans (k42.mono b41.size)
      have q42 := q41.next k42
      refine hK.out _ _ b42 (fun hHeld => ?_)
      clear hK K k42
      (try simp only [Act.put, List.setIfInBounds_toArray, List.set_cons_zero, List.set_cons_succ, List.getElem_toArray, List.getElem_cons_succ, List.getElem_cons_zero])
      refine wpAnyH_take (i := 5) (v := .agg #[.string ⟨#[120]⟩, .int .i64 0, .string ⟨#[]⟩, .string ⟨#[]⟩, .string ⟨#[]⟩, .int .i64 1, .string hp, .string ⟨#[]⟩, .string ⟨#[122]⟩, .int .i64 0, .string ⟨#[]⟩, .string ⟨#[]⟩]) rfl (by kernel_rfl) (by kernel_rfl) (by kernel_rfl) (fun _ _ _ h => h) (Or.inl ⟨by rfl, fun w hSw => by (try dsimp only at hSw); go_simp⟩) hHeld ?_
      simp only [Act.put, List.setIfInBounds_toArray, List.set_cons_zero, List.set_cons_succ, List.getElem_toArray, List.getElem_cons_succ, List.getElem_cons_zero]
      refine wpAnyH_take (i := 8) (v := .agg #[.string ⟨#[120]⟩, .int .i64 0, .string ⟨#[]⟩, .string ⟨#[]⟩, .string ⟨#[]⟩, .int .i64 1, .string hp, .string ⟨#[]⟩, .string ⟨#[122]⟩, .int .i64 0, .string ⟨#[]⟩, .string ⟨#[]⟩, .slice (some ⟨b, 0, none⟩) 1 1]) rfl (by kernel_rfl) (by kernel_rfl) (by kernel_rfl) (fun _ _ _ h => h) (Or.inl ⟨by rfl, fun w hSw => by (try dsimp only at hSw); go_simp⟩) hHeld ?_
      simp only [Act.put, List.setIfInBounds_toArray, List.set_cons_zero, List.set_cons_succ, List.getElem_toArray, List.getElem_cons_succ, List.getElem_cons_zero]
      refine wpAnyH_ready (rs := [10]) (by kernel_rfl) (by simp) ?_
      refine AllReadyH.cons rfl (fun K hK => ?_) AllReadyH.nil
      rw [if_pos (by rfl)]
      refine wp_store_mid 46 _ _ rfl (U3.drew.heap.size) 0 #[.string ⟨#[120]⟩, .int .i64 0, .string ⟨#[]⟩, .string ⟨#[]⟩, .string ⟨#[]⟩, .int .i64 1, .string hp, .string ⟨#[]⟩, .string ⟨#[122]⟩, .int .i64 0, .string ⟨#[]⟩, .string ⟨#[]⟩, .slice (some ⟨b, 0, none⟩) 1 1] rfl rfl q42.there (by kernel_rfl) (by simp [Value.oneCell']) ?_
      have b43 := below_putK b42 q42 b0.size #[.string ⟨#[120]⟩, .int .i64 0, .string ⟨#[]⟩, .string ⟨#[]⟩, .string ⟨#[]⟩, .int .i64 1, .string hp, .string ⟨#[]⟩, .string ⟨#[122]⟩, .int .i64 0, .string ⟨#[]⟩, .string ⟨#[]⟩, .slice (some ⟨b, 0, none⟩) 1 1]
      refine hK.out _ _ b43 (fun hHeld => ?_)
      clear hK K
      (try simp only [Act.put, List.setIfInBounds_toArray, List.set_cons_zero, List.set_cons_succ, List.getElem_toArray, List.getElem_cons_succ, List.getElem_cons_zero])
      refine wpAnyH_done (by kernel_rfl) ?_ _
      clear hHeld
      simp only [Exit.then]
      refine ‹∀ (a' : Act) (w' : World), Met _ a' w' → _› _ _ ?_
      go_meet
      exact ⟨U3.drew.heap.size, rfl, World.rangeAt_setCells_same _ _ _ _ q42.there, b43⟩
    case rest =>
      obtain ⟨U4, hU4⟩ : ∃ U, U = wc := ⟨_, rfl⟩
      subst hU4
      obtain ⟨h, rfl, hH, hB4⟩ := hcut
      have hG4 := belowR HG.out hB4
      have hL4 := belowR HL.out hB4
      have hW4 := HB3.out.trans (hB4.mono HB3.out.size)
      have d5 := heap_alloc_new U4 (.cells #[.string ⟨#[120]⟩, .int .i64 0, .string ⟨#[]⟩, .string ⟨#[]⟩, .string ⟨#[]⟩, .int .i64 1, .string hp, .string ⟨#[]⟩, .string ⟨#[122]⟩, .int .i64 0, .string ⟨#[]⟩, .string ⟨#[]⟩, .slice (some ⟨b, 0, none⟩) 1 1] 46)
      obtain ⟨n5, hn5⟩ : ∃ n, n = U4.heap.size := ⟨_, rfl⟩
      have h5 : Below U4.heap.size U4 (U4.alloc (.cells #[.string ⟨#[120]⟩, .int .i64 0, .string ⟨#[]⟩, .string ⟨#[]⟩, .string ⟨#[]⟩, .int .i64 1, .string hp, .string ⟨#[]⟩, .string ⟨#[122]⟩, .int .i64 0, .string ⟨#[]⟩, .string ⟨#[]⟩, .slice (some ⟨b, 0, none⟩) 1 1] 46)) := Below.heap_le _ _
      rw [← hn5] at d5
      obtain ⟨W5, hW5⟩ : ∃ W, W = U4.alloc (.cells #[.string ⟨#[120]⟩, .int .i64 0, .string ⟨#[]⟩, .string ⟨#[]⟩, .string ⟨#[]⟩, .int .i64 1, .string hp, .string ⟨#[]⟩, .string ⟨#[122]⟩, .int .i64 0, .string ⟨#[]⟩, .string ⟨#[]⟩, .slice (some ⟨b, 0, none⟩) 1 1] 46) := ⟨_, rfl⟩
      rw [← hW5] at d5 h5
      have hG5 := belowR hG4 h5
      have hL5 := belowR hL4 h5
      have hH5 := belowR hH h5
      have HBody : ∀ U, Below W5.heap.size W5 U → BodyS U (.slice (some ⟨b, 0, none⟩) 1 1) [kB] := fun U k => .inr ⟨b, 0, 1, rfl, by decide, by decide, belowR hL5 k⟩
      have hWm : Below w.heap.size w W5 := HB.out.trans ((hW4.trans (h5.mono hW4.size)).mono HB.out.size)
      have HMx : ∀ U, Below W5.heap.size W5 U → HasMax U m := fun U k => cell_below k (cell_below h5 (cell_below hW4 HM.out))
      have HPr := Lib.hid (ckProgram_any (w := W5) (v := .slice (some ⟨n5, 0, none⟩) 1 1) (rs := [kO]) (.inr ⟨n5, 0, 1, rfl, by decide, by decide, fun i r e => by
        obtain ⟨rfl, rfl⟩ : i = 0 ∧ r = kO := by
          cases i with
          | zero => exact ⟨rfl, by simpa using e.symm⟩
          | succ i => simp at e
        exact ⟨_, ⟨cell_in d5 rfl, cell_in d5 rfl, cell_in d5 rfl, cell_in d5 rfl, cell_in d5 rfl, cell_in d5 rfl, cell_in d5 rfl, cell_in d5 rfl, cell_in d5 rfl, cell_in d5 rfl, cell_in d5 rfl, cell_in d5 rfl, cell_in d5 rfl⟩, HBody W5 (Below.refl _ _)⟩⟩) (by intro r hr; obtain rfl := List.mem_singleton.1 hr; exact ⟨kO_vast, by intro l hl; obtain rfl := List.mem_singleton.1 hl; exact kB_vast⟩) m (HMx W5 (Below.refl _ _)) (by decide) (by intro r hr; obtain rfl := List.mem_singleton.1 hr; decide) (by intro _ hn; rw [kO_neg] at hn; cases hn))
      rw [kO_prog] at HPr
      have HRr : Hid (∀ U, Below W5.heap.size W5 U → Calls Tryz.prog 13 #[.agg #[.string ⟨#[120]⟩, .int .i64 0, .string ⟨#[]⟩, .string ⟨#[]⟩, .string ⟨#[]⟩, .int .i64 1, .string hp, .string ⟨#[]⟩, .string ⟨#[121]⟩, .int .i64 0, .string ⟨#[]⟩, .string ⟨#[]⟩, .slice (some ⟨b, 0, none⟩) 1 1]] U fun e w' => e = .returned (.int .i64 5) ∧ Below U.heap.size U w') := Lib.hid (fun U k => by
        have := ckSafe_any kR.1 (some ⟨b, 0, none⟩, 1, 1) [kB] kR_vast (by intro l hl; obtain rfl := List.mem_singleton.1 hl; exact kB_vast) m U (HMx U k) (HBody U k)
        rw [show ruleE (kR.1, [kB]) = 5 from kR_safe] at this
        exact this)
      have HRo : Hid (∀ U, Below W5.heap.size W5 U → Calls Tryz.prog 13 #[.agg #[.string ⟨#[120]⟩, .int .i64 0, .string ⟨#[]⟩, .string ⟨#[]⟩, .string ⟨#[]⟩, .int .i64 1, .string hp, .string ⟨#[]⟩, .string ⟨#[122]⟩, .int .i64 0, .string ⟨#[]⟩, .string ⟨#[]⟩, .slice (some ⟨b, 0, none⟩) 1 1]] U fun e w' => e = .returned (.int .i64 0) ∧ Below U.heap.size U w') := Lib.hid (fun U k => by
        have := ckSafe_any kO.1 (some ⟨b, 0, none⟩, 1, 1) [kB] kO_vast (by intro l hl; obtain rfl := List.mem_singleton.1 hl; exact kB_vast) m U (HMx U k) (HBody U k)
        rw [show ruleE (kO.1, [kB]) = 0 from kO_safe] at this
        exact this)
      have HRa : Hid (∀ U, Below W5.heap.size W5 U → U.rangeAt g 0 [.string ⟨#[120]⟩, .int .i64 0, .string ⟨#[]⟩, .string ⟨#[]⟩, .string ⟨#[]⟩, .int .i64 1, .string hp, .string ⟨#[]⟩, .string ⟨#[121]⟩, .int .i64 0, .string ⟨#[]⟩, .string ⟨#[]⟩, .slice (some ⟨b, 0, none⟩) 1 1]) := Lib.hid (fun U k => belowR hG5 k)
      have HRb : Hid (∀ U, Below W5.heap.size W5 U → U.rangeAt h 0 [.string ⟨#[120]⟩, .int .i64 0, .string ⟨#[]⟩, .string ⟨#[]⟩, .string ⟨#[]⟩, .int .i64 1, .string hp, .string ⟨#[]⟩, .string ⟨#[122]⟩, .int .i64 0, .string ⟨#[]⟩, .string ⟨#[]⟩, .slice (some ⟨b, 0, none⟩) 1 1]) := Lib.hid (fun U k => belowR hH5 k)
      have HI13 : Hid ((Tryz.prog.info? 46).map (·.size) = some ([.string ⟨#[120]⟩, .int .i64 0, .string ⟨#[]⟩, .string ⟨#[]⟩, .string ⟨#[]⟩, .int .i64 1, .string hp, .string ⟨#[]⟩, .string ⟨#[121]⟩, .int .i64 0, .string ⟨#[]⟩, .string ⟨#[]⟩, .slice (some ⟨b, 0, none⟩) 1 1] : List Value).length) := Lib.hid (by kernel_rfl)
      have HW5 := Lib.hid hW5
      have HN5 := Lib.hid hn5
      have HWm := Lib.hid hWm
      have HH4 := Lib.hid hH
      clear hH hG4 hL4 hW4 d5 h5 hW5 hG5 hL5 hH5 HBody hWm HMx hn5 HX HX3 HG HL
      go_wp2_with (first
      | (refine wpList_load_wantR rfl 46 (.tmp 4) rfl h 0 rfl [.string ⟨#[120]⟩, .int .i64 0, .string ⟨#[]⟩, .string ⟨#[]⟩, .string ⟨#[]⟩, .int .i64 1, .string hp, .string ⟨#[]⟩, .string ⟨#[122]⟩, .int .i64 0, .string ⟨#[]⟩, .string ⟨#[]⟩, .slice (some ⟨b, 0, none⟩) 1 1] _ HH4.out Tryz.underlying46 rfl HI13.out ?_)
      | (go_at_call 8; rw [← HW5.out, ← HN5.out]; refine HPr.out.mono ?_; rintro e w5 ⟨rfl, hb5⟩; have z6 := Lib.hid (hb5.alloc hb5.size (.cells #[.bool true] 26)); have c6 := Lib.hid (heap_alloc_new w5 (.cells #[.bool true] 26)); clear hb5)
      | (refine wpList_load_wantR rfl 46 (.tmp 3) rfl g 0 rfl [.string ⟨#[120]⟩, .int .i64 0, .string ⟨#[]⟩, .string ⟨#[]⟩, .string ⟨#[]⟩, .int .i64 1, .string hp, .string ⟨#[]⟩, .string ⟨#[121]⟩, .int .i64 0, .string ⟨#[]⟩, .string ⟨#[]⟩, .slice (some ⟨b, 0, none⟩) 1 1] _ (HRa.out _ z6.out) Tryz.underlying46 rfl HI13.out ?_)
      | (go_at_call 13; (with_reducible refine (HRr.out _ z6.out).mono ?_); rintro e w6 ⟨rfl, hb6⟩; have z7 := Lib.hid (z6.out.trans (hb6.mono z6.out.size)); replace hb6 := Lib.hid hb6)
      | (refine wpList_load_wantR rfl 46 (.tmp 4) rfl h 0 rfl [.string ⟨#[120]⟩, .int .i64 0, .string ⟨#[]⟩, .string ⟨#[]⟩, .string ⟨#[]⟩, .int .i64 1, .string hp, .string ⟨#[]⟩, .string ⟨#[122]⟩, .int .i64 0, .string ⟨#[]⟩, .string ⟨#[]⟩, .slice (some ⟨b, 0, none⟩) 1 1] _ (HRb.out _ z7.out) Tryz.underlying46 rfl HI13.out ?_)
      | (go_at_call 13; (with_reducible refine (HRo.out _ z7.out).mono ?_); rintro e w7 ⟨rfl, hb7⟩; have c7 := cell_in (j := 0) (((hb6.out.trans (hb7.mono hb6.out.size)).block _ (Array.getElem?_eq_some_iff.1 c6.out).1).trans c6.out) rfl; have z8 := Lib.hid (z7.out.trans (hb7.mono z7.out.size)); clear hb7))
      go_ret
      exact ⟨rfl, HWm.out.trans (z8.out.mono HWm.out.size)⟩
end Go.Proofs.YtlkiigoblkfkpaaGreatDoor

