/-
  CONTRACTS OF table's list AND Count.
-/
import Derived.Test.YtnmimagcmmdolaaTbDist
namespace Go.Proofs.Ytnmimagcmmdolaa
open Go.RowKit
set_option linter.unusedVariables false
set_option linter.unusedSimpArgs false

abbrev zLs : Array Value := #[.slice none 0 0, .int .i64 0]
abbrev lsA (x : LsD) : Array Value := #[.slice x.ao x.xs.length x.cap, .int .i64 x.live]
def listO (pats : List RowN) (Ls : List LsD) (q : RowN) : LsD := if q ∈ pats then Ls.getD (pats.idxOf q) ⟨none, 0, [], 0⟩ else ⟨none, 0, [], 0⟩
section
variable {w : World} {Gz : GzT} {S : Nat → Prop} {tb : Nat} {R : List EntN} {num : RowN → Option Nat} {pats : List RowN} {Ls : List LsD} {live d0 d1 d2 : Int} {ra : Option Addr} {rc nb pb : Nat} {la : Option Addr} {lc : Nat}
set_option maxRecDepth 100000 in
set_option maxHeartbeats 4000000 in
theorem tbList_any (h : TabM Gz w S tb R num pats Ls live d0 d1 d2 ra rc nb pb la lc) (q : RowN) (hq : okN q) :
    Calls Try.prog 31 #[tabP tb, rowV q] w fun e w' => e = .returned (.agg (lsA (listO pats Ls q))) ∧ Below w.heap.size w w' := by
  obtain ⟨n0, hn0⟩ : ∃ n0, n0 = w.heap.size := ⟨_, rfl⟩
  have hc0 := heap_alloc_new w (.cells (rowC q) 34)
  have hb0 := (Below.refl w.heap.size w).alloc (Nat.le_refl _) (.cells (rowC q) 34)
  have hs0 : (w.alloc (.cells (rowC q) 34)).heap.size = w.heap.size + 1 := World.size_alloc _ _
  have hc1 := heap_alloc_new (w.alloc (.cells (rowC q) 34)) (.cells zLs 70)
  have hb1 := hb0.alloc (by rw [hs0]; omega) (.cells zLs 70)
  have hc0' := (Below.heap_alloc (w.alloc (.cells (rowC q) 34)) (.cells zLs 70) w.heap.size (by rw [hs0]; omega)).trans hc0
  obtain ⟨W0, hW0⟩ : ∃ W0, W0 = (w.alloc (.cells (rowC q) 34)).alloc (.cells zLs 70) := ⟨_, rfl⟩
  rw [hs0] at hc1
  rw [← hW0] at hc0' hb1 hc1
  rw [← hn0] at hc0' hc1
  have h0 := h.below hb1
  have p2 : W0.cell? ⟨tb, 2, none⟩ = some (.map (some pb)) := cell_in h0.blk rfl
  have p3 : W0.drew.cell? ⟨tb, 3, none⟩ = some (.slice la Ls.length lc) := cell_in h0.blk rfl
  have c0 : W0.cell? ⟨n0, 0, none⟩ = some (.int .u32 (q.1 : Int)) := cell_in hc0' rfl
  have c1 : W0.cell? ⟨n0, 1, none⟩ = some (.int .u32 (q.2.1 : Int)) := cell_in hc0' rfl
  have c2 : W0.cell? ⟨n0, 2, none⟩ = some (.int .u32 (q.2.2 : Int)) := cell_in hc0' rfl
  have z0 : W0.cell? ⟨n0 + 1, 0, none⟩ = some (.slice none 0 0) := cell_in hc1 rfl
  have z1 : W0.cell? ⟨n0 + 1, 1, none⟩ = some (.int .i64 0) := cell_in hc1 rfl
  have zf : ∀ i, W0.frozen? ⟨n0 + 1, i, none⟩ = false := fun i => free_in hc1 i
  have hlu : (Instr.lookup 56 (.map (some pb)) (rowV q) true).run Try.prog W0.drew = .ok (.tuple #[.int .i64 (((patF pats q).getD 0 : Nat) : Int), .bool (patF pats q).isSome]) W0.drew := (h0.below (Below.refl _ _).drew).pts.look hq
  have HW0 := Lib.hid hW0
  have HN0 := Lib.hid hn0
  have HB := Lib.hid hb1
  have HEnd : Hid (∀ (ao : Option Addr) (n cap : Nat) (l : Int), (((W0.drew.setCell ⟨n0 + 1, 0, none⟩ (.slice ao n cap)).setCell ⟨n0 + 1, 1, none⟩ (.int .i64 l))).heap[n0 + 1]? = some (.cells #[.slice ao n cap, .int .i64 l] 70 (0, 0)) ∧ Below w.heap.size w ((W0.drew.setCell ⟨n0 + 1, 0, none⟩ (.slice ao n cap)).setCell ⟨n0 + 1, 1, none⟩ (.int .i64 l))) :=
    Lib.hid (fun ao n cap l => ⟨heap_setCell_same _ (n0 + 1) 1 _ _ _ (heap_setCell_same _ (n0 + 1) 0 _ _ _ hc1), (hb1.drew.setCell (p := ⟨n0 + 1, 0, none⟩) (by show _ ≤ n0 + 1; omega) _).setCell (p := ⟨n0 + 1, 1, none⟩) (by show _ ≤ n0 + 1; omega) _⟩)
  have hsd : W0.drew = W0.drew := rfl
  by_cases hin : q ∈ pats
  · have hp : patF pats q = some (pats.idxOf q) := if_pos hin
    have hlt : pats.idxOf q < Ls.length := by rw [← h.lens]; exact List.idxOf_lt_length_iff.2 hin
    rw [hp] at hlu
    simp only [Option.getD_some, Option.isSome_some] at hlu
    obtain ⟨x, hx⟩ : ∃ x, Ls[pats.idxOf q]? = some x := ⟨_, List.getElem?_eq_getElem hlt⟩
    have hO : listO pats Ls q = x := by
      unfold listO
      rw [if_pos hin, List.getD_eq_getElem?_getD, hx]
      rfl
    rw [hO]
    generalize pats.idxOf q = k at *
    obtain ⟨lg, lo, hla, hcs, _⟩ := h0.ptrL (by omega)
    obtain ⟨q0, q1⟩ := hcs k x hx
    have q0' : W0.drew.cell? ⟨lg, lo + k * 2, none⟩ = some (.slice x.ao x.xs.length x.cap) := q0
    have q1' : W0.drew.cell? ⟨lg, lo + k * 2 + 1, none⟩ = some (.int .i64 x.live) := q1
    have zf' : ∀ i, W0.drew.frozen? ⟨n0 + 1, i, none⟩ = false := zf
    have z0' : W0.drew.cell? ⟨n0 + 1, 0, none⟩ = some (.slice none 0 0) := z0
    have z1' : W0.drew.cell? ⟨n0 + 1, 1, none⟩ = some (.int .i64 0) := z1
    rw [hla] at p3
    have i0 : (0 : Int) ≤ (k : Int) := by omega
    have i1 : (k : Int) < (Ls.length : Int) := by omega
    have HEn := Lib.hid (HEnd.out x.ao x.xs.length x.cap x.live)
    clear h h0 hc0 hc1 hc0' hb0 hb1 hs0 hW0 hn0 hp hlt hx hcs hla hin hO
    go_enter Try.func31, Try.ntmps31
    go_upto_region 1 with fail
    rw [← HW0.out, ← HN0.out]
    go_region_held3 (fun W' => W' = W0.drew) ((first | assumption | rfl)) (fail)
    go_wp2
    refine bodyPost_ret (results_cell_row rfl _ _ (n0 + 1) 70 (lsA x) (0, 0) _ rfl HEn.out.1 Try.underlying70 rfl (by kernel_rfl)) rfl ?_
    exact ⟨rfl, HEn.out.2⟩
  · have hp : patF pats q = none := if_neg hin
    rw [hp] at hlu
    simp only [Option.getD_none, Option.isSome_none] at hlu
    have hO : listO pats Ls q = ⟨none, 0, [], 0⟩ := if_neg hin
    rw [hO]
    have zf' : ∀ i, W0.drew.frozen? ⟨n0 + 1, i, none⟩ = false := zf
    have z0' : W0.drew.cell? ⟨n0 + 1, 0, none⟩ = some (.slice none 0 0) := z0
    have z1' : W0.drew.cell? ⟨n0 + 1, 1, none⟩ = some (.int .i64 0) := z1
    have HEn := Lib.hid (HEnd.out none 0 0 0)
    clear h h0 hc0 hc1 hc0' hb0 hb1 hs0 hW0 hn0 hp hin hO p3
    go_enter Try.func31, Try.ntmps31
    go_upto_region 1 with fail
    rw [← HW0.out, ← HN0.out]
    go_region_held3 (fun W' => W' = W0.drew) ((first | assumption | rfl)) (fail)
    go_wp2
    refine bodyPost_ret (results_cell_row rfl _ _ (n0 + 1) 70 (lsA ⟨none, 0, [], 0⟩) (0, 0) _ rfl HEn.out.1 Try.underlying70 rfl (by kernel_rfl)) rfl ?_
    exact ⟨rfl, HEn.out.2⟩
end
end Go.Proofs.Ytnmimagcmmdolaa
