/-
  WHAT THE PROOF STANDS ON, a part of it: RowClone, UnClone.
-/
import Derived.Test.YtjbfjglomonanaaU2
import Derived.Lib.SliceRun
import Derived.Test.YtjbfjglomonanaaU20
import Derived.Shelf.SlMaps.Clone
/-
  A SLICE'S ELEMENTS COPIED BEHIND AN EMPTY ONE (slices.Clone's append).
-/

namespace Go.Proofs.Ytjbfjglomonanaa
open Go.RowKit
set_option linter.unusedVariables false
set_option linter.unusedSimpArgs false

section
variable {P : Program} (w : World)
/-- A copy of a slice's elements behind an empty one that is there. -/
theorem run_append_clone (t ty e : TypeId) (i : TypeInfo) (z : Value) (k bytes : Nat) (ht : P.underlying t = some (.slice e)) (hi : P.info? e = some i) (hz : i.zero = some z)
    (hsize : i.size = k) (hby : i.bytes = bytes) (hzs : z.cells.size = k)
    (g0 : Nat) (hg0 : w.heap[g0]? = some (.cells #[] e (0, 0)))
    (ao : Option Addr) (n cap : Nat) (xs : List Value) (h : RowK w e k ao n cap xs)
    (h63 : n ≤ maxLen) (hbytes : n * bytes ≤ 140737488355328) :
    ∃ g' cap' w', (Builtin.append_ #[t, t] ty #[.slice (some ⟨g0, 0, none⟩) 0 0, .slice ao n cap]).run P w = .ok (.slice (some ⟨g', 0, none⟩) n cap') w' ∧ RowK w' e k (some ⟨g', 0, none⟩) n cap' xs ∧ Below w.heap.size w w' ∧ (g' = g0 ∨ w.heap.size ≤ g') := by
  subst hsize
  subst hby
  by_cases hn : n = 0
  · subst hn
    have hx : xs = [] := List.eq_nil_of_length_eq_zero (by simpa using h.1)
    subst hx
    refine ⟨g0, 0, w, ?_, ⟨by simp, .inr ⟨g0, 0, #[], rfl, hg0, Nat.le_refl _, Nat.zero_le _, fun hc => absurd hc (Nat.lt_irrefl _), fun j u hu => by simp at hu⟩⟩, Below.refl _ _, .inl rfl⟩
    cases ao <;> simp [Builtin.append_, run_underlying ht, sizeOf, typeInfo, hi, Builtin.lenOf, Builtin.firstCells, loadCells, loadCellsFrom, storeCells]
  · rcases h.2 with ⟨_, h0, _⟩ | ⟨g, o, cur, rfl, hg, hnc, hcm, hroom, hcs⟩
    · exact absurd h0 hn
    have hr := run_append_grow (P := P) w t ty e i z ht hi hz ⟨g0, 0, none⟩ 0 0 [] (by simp) (fun j u hu => by simp at hu) ⟨g, o, none⟩ n cap xs h.1 (fun j u hu => by rw [Addr.add_mid]; exact cell_in hg (hcs j u hu)) (by omega) (by unfold maxLen at h63; omega) (growslice_fits (by omega) (by rw [Nat.zero_add]; exact hbytes))
    simp only [Nat.zero_add, Array.empty_append] at hr
    refine ⟨w.heap.size, _, _, hr, ⟨h.1, .inr ⟨w.heap.size, 0, _, rfl, heap_alloc_new w.drew _, grownCap_ge w n 0 e, grownCap_le_maxLen w n 0 e h63, fun _ => ⟨rfl, ?_⟩, fun j u hu => ?_⟩⟩, (Below.refl _ w).drew.alloc (Nat.le_refl _) _, .inr (Nat.le_refl _)⟩
    · simp only [Array.size_append, List.size_toArray, size_zeroCells, hzs]
      rw [h.1, Nat.sub_mul]
      have := Nat.mul_le_mul_right i.size (grownCap_ge w n 0 e)
      simp
      omega
    · rw [Nat.zero_add]
      have hl := (List.getElem?_eq_some_iff.1 hu).1
      first
        | (rw [Array.getElem?_append_left (by simpa using hl)]; simpa using hu)
        | (rw [Array.getElem?_append_left (by simpa using hl), Array.getElem?_append_right (by simp)]; simpa using hu)
end
theorem wpList_append_clone {P : Program} {ops : Array Oper} {o : Oper} {rest : List Oper} {Q : Exit → Act → World → Prop} {a : Act} {w : World}
    (hgd : o.guard = none) (x0 x : Operand) (t : TypeId) (hop : o.op = Op.call { callee := Callee.builtin Builtin.append, args := #[x0, x], argTypes := #[t, t] })
    (e : TypeId) (i : TypeInfo) (z : Value) (k bytes : Nat) (ht : P.underlying t = some (.slice e)) (hi : P.info? e = some i) (hz : i.zero = some z)
    (hsize : i.size = k) (hby : i.bytes = bytes) (hzs : z.cells.size = k)
    (g0 : Nat) (hx0 : a.eval x0 = .slice (some ⟨g0, 0, none⟩) 0 0) (hg0 : w.heap[g0]? = some (.cells #[] e (0, 0)))
    (ao : Option Addr) (n cap : Nat) (xs : List Value) (hx : a.eval x = .slice ao n cap) (h : RowK w e k ao n cap xs)
    (h63 : n ≤ maxLen) (hbytes : n * bytes ≤ 140737488355328)
    (hK : ∀ g' cap' w', RowK w' e k (some ⟨g', 0, none⟩) n cap' xs → Below w.heap.size w w' → (g' = g0 ∨ w.heap.size ≤ g') → wpList P ops Q rest (a.put o.dst (.slice (some ⟨g', 0, none⟩) n cap')) w') :
    wpList P ops Q (o :: rest) a w := by
  refine wpList_step fun K hKK => ?_
  obtain ⟨g', cap', w', hrun, h2, h3, h4⟩ := run_append_clone (P := P) w t o.type e i z k bytes ht hi hz hsize hby hzs g0 hg0 ao n cap xs h h63 hbytes
  have hw : Region.wanted o (yielded ops a.tmps) = true := by simp [Region.wanted, hgd]
  rw [if_pos hw]
  unfold Oper.wp
  simp [execOp, hop, resolve, invoke, builtin, hx0, hx, hrun, Result.andThen]
  exact hKK _ _ (hK g' cap' w' h2 h3 h4)
end Go.Proofs.Ytjbfjglomonanaa

/-
  CONTRACTS OF maps.Clone AT NUMBERS OF 32 BITS, slices.Clone AT SUCH NUMBERS.
-/

namespace Go.Proofs.Ytjbfjglomonanaa
open Go.RowKit Go.Shelf
set_option linter.unusedVariables false
set_option linter.unusedSimpArgs false

set_option maxRecDepth 100000 in
theorem cloneMapU_any {w : World} {b : Nat} {f : Nat → Option Nat} (h : MapU keyU w b f) : Calls Try.prog 23 #[.map (some b)] w fun e w' => e = .returned (.map (some w.heap.size)) ∧ Below w.heap.size w w' ∧ w'.heap.size = w.heap.size + 1 ∧ MapU keyU w' w.heap.size f := by
  obtain ⟨es, clock, hb, h1⟩ := h
  have hq := fun w => run_eql_map_nil_sl (P := Try.prog) w 45 _ _ (some b) Try.underlying45
  have HE := Lib.hid (⟨(Below.refl _ w).alloc (Nat.le_refl _) (.map es clock), World.size_alloc _ _, es, clock, heap_alloc_new w (.map es clock), h1⟩ : Below w.heap.size w (w.alloc (.map es clock)) ∧ (w.alloc (.map es clock)).heap.size = w.heap.size + 1 ∧ MapU keyU (w.alloc (.map es clock)) w.heap.size f)
  clear h1
  go_enter Try.func23, Try.ntmps23
  go_wp2
  rw [run_callFunc_extern Try.func31 (by kernel_rfl) (by kernel_rfl) (by kernel_rfl) (e := Extern.MapsClone.clone) (by kernel_rfl), run_maps_clone_sl w 45 hb]
  simp only [Result.andThen]
  rw [Oper.upon_value]
  go_wp2
  rw [run_typeAssert_map_sl _ 45 20 _ _ _ Try.underlying45]
  simp only [Result.andThen]
  rw [Oper.upon_value]
  go_wp2
  go_ret
  exact ⟨by simp, HE.out⟩
set_option maxRecDepth 100000 in
theorem cloneNums_any {w : World} {ao : Option Addr} {n cap : Nat} {xs : List Value} (h : RowK w 23 1 ao n cap xs) (hn : n ≤ 10000000000) (hm : n ≤ maxLen) : Calls Try.prog 24 #[.slice ao n cap] w fun e w' => ∃ ao' cap', e = .returned (.slice ao' n cap') ∧ RowK w' 23 1 ao' n cap' xs ∧ Below w.heap.size w w' ∧ ∀ a, ao' = some a → w.heap.size ≤ a.block := by
  have hq := fun (a : Option Addr) (n c : Nat) (w : World) => Lib.run_eql_slice_nil (P := Try.prog) w 33 _ a n c 0 0 Try.underlying33
  cases ao with
  | none =>
    have hn0 : n = 0 ∧ cap = 0 := by
      rcases h.2 with ⟨_, h0, h1⟩ | ⟨g, o, cur, h0, _⟩
      · exact ⟨h0, h1⟩
      · cases h0
    obtain ⟨rfl, rfl⟩ := hn0
    have HE := Lib.hid h
    clear h
    go_enter Try.func24, Try.ntmps24
    go_wp2
    go_ret
    exact ⟨none, 0, by simp, HE.out, Below.refl _ _, fun a ha => by cases ha⟩
  | some a =>
    obtain ⟨i, hi, hz, hs, hb⟩ := info_u32
    have hba := (Below.refl w.heap.size w).alloc (Nat.le_refl _) (.cells #[] 23)
    have HA := Lib.hid (h.below hba)
    have HG := Lib.hid (heap_alloc_new w (.cells #[] 23))
    have HB := Lib.hid hba
    have HS : Hid ((w.alloc (.cells #[] 23)).heap.size = w.heap.size + 1) := Lib.hid (World.size_alloc _ _)
    have HI := Lib.hid hi
    have HZ := Lib.hid hz
    have HSz := Lib.hid hs
    have HBy := Lib.hid hb
    clear h hba hi hz hs hb
    go_enter Try.func24, Try.ntmps24
    go_wp2_with (refine wpList_append_clone (by rfl) (.tmp 5) (.tmp 6) 33 rfl 23 i (.int .u32 0) 1 4 Try.underlying33 HI.out HZ.out HSz.out HBy.out rfl w.heap.size rfl HG.out (some a) n cap xs rfl HA.out hm (by omega) ?_; intro g' cap' w' hr hb2 hg; have hr2 := Lib.hid hr; have hb3 := Lib.hid hb2; have hg2 := Lib.hid hg; clear hr hb2 hg)
    go_ret
    exact ⟨some ⟨g', 0, none⟩, cap', by simp, hr2.out, HB.out.trans (hb3.out.mono (by rw [HS.out]; omega)), fun a ha => by
      injection ha with ha
      subst ha
      rcases hg2.out with h | h
      · rw [h]; exact Nat.le_refl _
      · have := HS.out
        show w.heap.size ≤ g'
        omega⟩
end Go.Proofs.Ytjbfjglomonanaa

