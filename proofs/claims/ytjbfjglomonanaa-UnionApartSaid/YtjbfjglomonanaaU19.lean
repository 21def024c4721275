/-
  WHAT THE PROOF STANDS ON, a part of it: UnSorted.
-/
import Derived.Test.YtjbfjglomonanaaU17
import Derived.Test.YtjbfjglomonanaaU16
/-
  CONTRACTS OF slices.Collect, slices.Sorted (behind slices.Values) AND OF clique.sorted: the sorted list, in new memory.
-/

namespace Go.Proofs.Ytjbfjglomonanaa
open Go.RowKit Go.Sort
set_option linter.unusedVariables false
set_option linter.unusedSimpArgs false

/-- Numbers that lie behind a slice. -/
def NumsR (W : World) (ao : Option Addr) (ns : List Nat) : Prop := 0 < ns.length → ∃ g o, ao = some ⟨g, o, none⟩ ∧ ∀ j k : Nat, ns[j]? = some k → W.cell? ⟨g, o + j, none⟩ = some (.int .u32 (k : Int))
theorem NumsR.below {W U : World} {ao : Option Addr} {ns : List Nat} (h : NumsR W ao ns) (hB : Below W.heap.size W U) : NumsR U ao ns := fun hl => by
  obtain ⟨g, o, e, hc⟩ := h hl
  exact ⟨g, o, e, fun j k hj => (hB.cell (p := ⟨g, o + j, none⟩) (World.block_lt_of_cell? W _ (hc j k hj))).trans (hc j k hj)⟩
set_option maxRecDepth 100000 in
theorem collectU_any {w : World} {bq : Nat} {ao : Option Addr} {len cap : Nat} {ns : List Nat} (hQ : ValsQ bq ao len cap ns w) (hl : ns.length ≤ 1000000) :
    Calls Try.prog 36 #[.func (.func 38) #[] #[.pointer (some ⟨bq, 0, none⟩)]] w fun e w' =>
      ∃ (ao' : Option Addr) (cap' : Nat), e = .returned (.slice ao' ns.length cap') ∧ RowK w' 23 1 ao' ns.length cap' (u32C ns) ∧ (∀ a, ao' = some a → w.heap.size ≤ a.block) ∧ Below w.heap.size w w' := by
  have HC := Lib.hid (appU_any hQ hl)
  go_enter Try.func36, Try.ntmps36
  go_wp2_with (go_at_call 43; refine HC.out.mono ?_; rintro e w2 ⟨ao', cap', rfl, h1, h2, h3⟩; replace h1 := Lib.hid h1; replace h2 := Lib.hid h2; replace h3 := Lib.hid h3)
  go_ret
  exact ⟨ao', cap', rfl, h1.out, h2.out, h3.out⟩
theorem row_holds {W : World} {g o cap : Nat} {ns : List Nat} (h : RowK W 23 1 (some ⟨g, o, none⟩) ns.length cap (u32C ns)) : Holds encU W g o ns.toArray := by
  intro j hj
  have hj2 : j < ns.length := by simpa using hj
  obtain ⟨g2, o2, e, hc, hf⟩ := h.at_ (by omega)
  obtain ⟨rfl, rfl⟩ : g = g2 ∧ o = o2 := by
    injection e with e
    injection e with e1 e2
    exact ⟨e1, e2⟩
  refine ⟨?_, hf _⟩
  rw [hc j (.int .u32 (ns[j] : Int)) (by rw [List.getElem?_map, List.getElem?_eq_getElem hj2]; rfl)]
  simp [hj2]
theorem holds_nums {W : World} {g o : Nat} {d : Array Nat} (h : Holds encU W g o d) : NumsR W (some ⟨g, o, none⟩) d.toList := fun _ => ⟨g, o, rfl, fun j k hj => by
  have hj2 : j < d.size := by simpa using (List.getElem?_eq_some_iff.1 hj).1
  rw [(h j hj2).1]
  have : d[j]! = k := by
    rw [getElem!_pos d j hj2]
    have := (List.getElem?_eq_some_iff.1 hj).2
    simpa using this
  rw [this]⟩
theorem turned_low {B : Nat} {W U : World} {blk : Nat} (h : Turned (fun j => j = blk) W U) (hB : B ≤ W.heap.size) (hb : B ≤ blk) : Below B W U := h.below hB (fun j hj => by omega)
theorem sort_after {w w2 : World} {ao : Option Addr} {cap : Nat} {ns : List Nat} (h1 : RowK w2 23 1 ao ns.length cap (u32C ns)) (h2 : ∀ a, ao = some a → w.heap.size ≤ a.block) (h3 : Below w.heap.size w w2) (hl : ns.length ≤ 1000000) :
    Calls Try.prog 37 #[.slice ao ns.length cap] w2 fun e w' => e = .returned (.tuple #[]) ∧ NumsR w' ao (ns.mergeSort fun x y => decide (x ≤ y)) ∧ Below w.heap.size w w' := by
  by_cases h0 : ns.length = 0
  · obtain rfl : ns = [] := List.eq_nil_of_length_eq_zero h0
    refine (sortNil_any ao cap w2).mono ?_
    rintro e w' ⟨rfl, rfl⟩
    exact ⟨rfl, fun h => by simp at h, h3⟩
  · obtain ⟨g, o, rfl, _⟩ := h1.at_ (by omega)
    have hs := sortU_any (W0 := w2) (d := ns.toArray) ⟨row_holds h1, Turned.refl⟩ cap (by simpa using hl)
    rw [List.size_toArray] at hs
    refine hs.mono ?_
    rintro e w' ⟨d2, rfl, hd, hW⟩
    refine ⟨rfl, ?_, h3.trans (turned_low hW.turned h3.size (h2 _ rfl))⟩
    have := holds_nums hW.holds
    rw [hd] at this
    simpa using this
set_option maxRecDepth 100000 in
theorem sortedU_any {w : World} {bq : Nat} {ao : Option Addr} {len cap : Nat} {ns : List Nat} (hQ : ValsQ bq ao len cap ns w) (hl : ns.length ≤ 1000000) :
    Calls Try.prog 29 #[.func (.func 38) #[] #[.pointer (some ⟨bq, 0, none⟩)]] w fun e w' =>
      ∃ (ao' : Option Addr) (cap' : Nat), e = .returned (.slice ao' ns.length cap') ∧ NumsR w' ao' (ns.mergeSort fun x y => decide (x ≤ y)) ∧ (∀ a, ao' = some a → w.heap.size ≤ a.block) ∧ Below w.heap.size w w' := by
  have HC := Lib.hid (collectU_any hQ hl)
  have hlen : (ns.mergeSort fun x y => decide (x ≤ y)).length = ns.length := List.length_mergeSort _
  have HLe := Lib.hid hlen
  have HL := Lib.hid hl
  clear hlen hQ hl
  go_enter Try.func29, Try.ntmps29
  go_wp2_with (first
    | (go_at_call 36; refine HC.out.mono ?_; rintro e w2 ⟨ao', cap', rfl, h1, h2, h3⟩; have HSo := Lib.hid (sort_after h1 h2 h3 HL.out); replace h1 := Lib.hid h1; replace h2 := Lib.hid h2; replace h3 := Lib.hid h3)
    | (go_at_call 37; refine HSo.out.mono ?_; rintro e w3 ⟨rfl, h4, h5⟩; replace h4 := Lib.hid h4; replace h5 := Lib.hid h5))
  go_ret
  exact ⟨ao', cap', rfl, h4.out, h2.out, h5.out⟩
set_option maxRecDepth 100000 in
/-- A clique's numbers in order, in new memory. -/
theorem cliqueSorted_any {w : World} {l : Nat} {ao : Option Addr} {cap : Nat} {ns : List Nat} (hN : NumsR w ao ns) (hl : ns.length ≤ 1000000) :
    Calls Try.prog 22 #[.agg #[.int .u32 (l : Int), .slice ao ns.length cap]] w fun e w' =>
      ∃ (ao' : Option Addr) (cap' : Nat), e = .returned (.slice ao' ns.length cap') ∧ NumsR w' ao' (ns.mergeSort fun x y => decide (x ≤ y)) ∧ (∀ a, ao' = some a → w.heap.size ≤ a.block) ∧ Below w.heap.size w w' := by
  have hb1 := (Below.refl w.heap.size w).alloc (Nat.le_refl _) (.cells #[.int .u32 (l : Int), .slice ao ns.length cap] 50)
  have d1 := heap_alloc_new w (.cells #[.int .u32 (l : Int), .slice ao ns.length cap] 50)
  obtain ⟨w1, hw1⟩ : ∃ w1, w1 = w.alloc (.cells #[.int .u32 (l : Int), .slice ao ns.length cap] 50) := ⟨_, rfl⟩
  rw [← hw1] at hb1 d1
  have c1 : w1.cell? ⟨w.heap.size, 1, none⟩ = some (.slice ao ns.length cap) := cell_in d1 rfl
  have HV := Lib.hid (values_calls ao ns.length cap w1)
  have hb2 := (Below.refl w1.heap.size w1).alloc (Nat.le_refl _) (.cells #[.slice ao ns.length cap] 33)
  have d2 := heap_alloc_new w1 (.cells #[.slice ao ns.length cap] 33)
  have hq : ValsQ w1.heap.size ao ns.length cap ns (w1.alloc (.cells #[.slice ao ns.length cap] 33)) := ⟨cell_in d2 rfl, rfl, (hN.below hb1).below hb2⟩
  have HS := Lib.hid (sortedU_any hq hl)
  have HB := Lib.hid (hb1.trans (hb2.mono hb1.size))
  have HSz := Lib.hid hb1.size
  have HW1 := Lib.hid hw1
  clear hb1 d1 hb2 d2 hq hw1
  go_enter Try.func22, Try.ntmps22
  go_upto_region 1 with fail
  rw [← HW1.out]
  go_wp2_with (first
    | (go_at_call 30; refine HV.out.mono ?_; rintro e w2 ⟨rfl, rfl⟩)
    | (go_at_call 29; refine HS.out.mono ?_; rintro e w3 ⟨ao', cap', rfl, h1, h2, h3⟩; replace h1 := Lib.hid h1; replace h2 := Lib.hid h2; replace h3 := Lib.hid h3))
  go_ret
  exact ⟨ao', cap', rfl, h1.out, fun a ha => Nat.le_trans HB.out.size (h2.out a ha), HB.out.trans (h3.out.mono HB.out.size)⟩
end Go.Proofs.Ytjbfjglomonanaa

