/-
  THE LAW TermSorts. Written by tools/gentermsorts.py.
-/
import Derived.Test.YtjpppfcbhkbbpaaDoorTermSort
import Derived.Test.YtjpppfcbhkbbpaaDoorSliceAppend
import Derived.Test.YtjpppfcbhkbbpaaDoorTermKnown
import Derived.Test.YtjpppfcbhkbbpaaDoorHasGrown
import Derived.IntWalk
namespace Go.Proofs.YtjpppfcbhkbbpaaDoor
open Go.RowKit
open Utf Term
set_option linter.unusedVariables false
set_option linter.unusedSimpArgs false

theorem slice_take {w : World} {bo : Option Addr} {n bc p : Nat} {ds : List TripD} (h : SliceT w (.slice bo n bc) ds) (hp : p ≤ n) : SliceT w (.slice bo p bc) (ds.take p) := by
  rcases h with ⟨h, rfl⟩ | ⟨b, off, cap, h, h1, h2, h3⟩
  · simp only [Value.slice.injEq] at h
    obtain ⟨rfl, rfl, rfl⟩ := h
    obtain rfl : p = 0 := by omega
    exact .inl ⟨rfl, rfl⟩
  · simp only [Value.slice.injEq] at h
    obtain ⟨rfl, rfl, rfl⟩ := h
    have e : (ds.take p).length = p := by rw [List.length_take]; omega
    refine .inr ⟨b, off, bc, by rw [e], by omega, h2, fun j u hu => h3 j u ?_⟩
    have hj : j < p * 9 := by have := (List.getElem?_eq_some_iff.1 hu).1; rwa [cellsT_length, e] at this
    rw [← cellsT_take, List.getElem?_take_of_lt hj] at hu
    exact hu
theorem one_slice (w : World) (x : TripD) : SliceT (w.alloc (.cells (encT x).toArray 26)) (.slice (some ⟨w.heap.size, 0, none⟩) 1 1) [x] := by
  refine .inr ⟨w.heap.size, 0, 1, rfl, Nat.le_refl _, by unfold maxLen; omega, fun j u hu => ?_⟩
  rw [Nat.zero_add, World.cell?_alloc_at _ _ _ _ rfl]
  have e : cellsT [x] = encT x := by rw [cellsT_cons, cellsT_nil, List.append_nil]
  rw [e] at hu
  simpa using hu
theorem insL_len {f : TripD → TripD → Int} (x : TripD) : ∀ out : List TripD, (insL f x out).length ≤ out.length + 1
  | [] => by simp [insL]
  | y :: out => by
    unfold insL
    split
    · have := insL_len (f := f) x out
      simp only [List.length_cons]
      omega
    · split <;> simp
theorem foldl_ins_length : ∀ (ds out : List TripD), (ds.foldl (fun out x => insL cmpT x out) out).length ≤ out.length + ds.length
  | [], out => by simp
  | x :: ds, out => by
    have h1 := foldl_ins_length ds (insL cmpT x out)
    have h2 := insL_len (f := cmpT) x out
    rw [List.foldl_cons, List.length_cons]
    omega
theorem sortL_length (ds : List TripD) : (sortL cmpT ds).length ≤ ds.length := by
  have := foldl_ins_length ds []
  unfold sortL
  simpa using this
theorem below_grow (w : World) (n : Nat) (os : Array Obj) : Below w.heap.size w (Go.Sort.grow (w.drewN n) os) := by
  refine ⟨rfl, rfl, rfl, ?_, fun k hk => ?_⟩
  · show w.heap.size ≤ (w.heap ++ os).size
    simp
  · show (w.heap ++ os)[k]? = w.heap[k]?
    rw [Array.getElem?_append_left hk]
structure NineG (W : World) (b o : Nat) (x : TripD) : Prop where
  c0 : ∀ n os, (Go.Sort.grow (W.drewN n) os).cell? ⟨b, o, none⟩ = some (.int .i64 x.1.1)
  c1 : ∀ n os, (Go.Sort.grow (W.drewN n) os).cell? ⟨b, o + 1, none⟩ = some (.string x.1.2.1)
  c2 : ∀ n os, (Go.Sort.grow (W.drewN n) os).cell? ⟨b, o + 2, none⟩ = some (.string x.1.2.2)
  c3 : ∀ n os, (Go.Sort.grow (W.drewN n) os).cell? ⟨b, o + 3, none⟩ = some (.int .i64 x.2.1.1)
  c4 : ∀ n os, (Go.Sort.grow (W.drewN n) os).cell? ⟨b, o + 4, none⟩ = some (.string x.2.1.2.1)
  c5 : ∀ n os, (Go.Sort.grow (W.drewN n) os).cell? ⟨b, o + 5, none⟩ = some (.string x.2.1.2.2)
  c6 : ∀ n os, (Go.Sort.grow (W.drewN n) os).cell? ⟨b, o + 6, none⟩ = some (.int .i64 x.2.2.1)
  c7 : ∀ n os, (Go.Sort.grow (W.drewN n) os).cell? ⟨b, o + 7, none⟩ = some (.string x.2.2.2.1)
  c8 : ∀ n os, (Go.Sort.grow (W.drewN n) os).cell? ⟨b, o + 8, none⟩ = some (.string x.2.2.2.2)
theorem nine_grown {W : World} {b o : Nat} {x : TripD} (h : Nine W b o x) : NineG W b o x := by
  have g : ∀ n os, Below W.heap.size W (Go.Sort.grow (W.drewN n) os) := fun n os => below_grow W n os
  exact ⟨fun n os => (h.below (g n os)).c0, fun n os => (h.below (g n os)).c1, fun n os => (h.below (g n os)).c2, fun n os => (h.below (g n os)).c3, fun n os => (h.below (g n os)).c4, fun n os => (h.below (g n os)).c5, fun n os => (h.below (g n os)).c6, fun n os => (h.below (g n os)).c7, fun n os => (h.below (g n os)).c8⟩
theorem tri3_start {W w0 : World} {bs os bt ot bu ou : Nat} {x : TripD} (n0 : Nine W bs os x) (n1 : Nine W bt ot x) (n2 : Nine W bu ou x) (hB : Below w0.heap.size w0 W) : W.cell? ⟨bs, os, none⟩ = some (.int .i64 x.1.1) ∧ W.cell? ⟨bs, os + 1, none⟩ = some (.string x.1.2.1) ∧ W.cell? ⟨bs, os + 2, none⟩ = some (.string x.1.2.2) ∧ W.cell? ⟨bs, os + 3, none⟩ = some (.int .i64 x.2.1.1) ∧ W.cell? ⟨bs, os + 4, none⟩ = some (.string x.2.1.2.1) ∧ W.cell? ⟨bs, os + 5, none⟩ = some (.string x.2.1.2.2) ∧ W.cell? ⟨bs, os + 6, none⟩ = some (.int .i64 x.2.2.1) ∧ W.cell? ⟨bs, os + 7, none⟩ = some (.string x.2.2.2.1) ∧ W.cell? ⟨bs, os + 8, none⟩ = some (.string x.2.2.2.2) ∧ W.cell? ⟨bt, ot, none⟩ = some (.int .i64 x.1.1) ∧ W.cell? ⟨bt, ot + 1, none⟩ = some (.string x.1.2.1) ∧ W.cell? ⟨bt, ot + 2, none⟩ = some (.string x.1.2.2) ∧ W.cell? ⟨bt, ot + 3, none⟩ = some (.int .i64 x.2.1.1) ∧ W.cell? ⟨bt, ot + 4, none⟩ = some (.string x.2.1.2.1) ∧ W.cell? ⟨bt, ot + 5, none⟩ = some (.string x.2.1.2.2) ∧ W.cell? ⟨bt, ot + 6, none⟩ = some (.int .i64 x.2.2.1) ∧ W.cell? ⟨bt, ot + 7, none⟩ = some (.string x.2.2.2.1) ∧ W.cell? ⟨bt, ot + 8, none⟩ = some (.string x.2.2.2.2) ∧ W.cell? ⟨bu, ou, none⟩ = some (.int .i64 x.1.1) ∧ W.cell? ⟨bu, ou + 1, none⟩ = some (.string x.1.2.1) ∧ W.cell? ⟨bu, ou + 2, none⟩ = some (.string x.1.2.2) ∧ W.cell? ⟨bu, ou + 3, none⟩ = some (.int .i64 x.2.1.1) ∧ W.cell? ⟨bu, ou + 4, none⟩ = some (.string x.2.1.2.1) ∧ W.cell? ⟨bu, ou + 5, none⟩ = some (.string x.2.1.2.2) ∧ W.cell? ⟨bu, ou + 6, none⟩ = some (.int .i64 x.2.2.1) ∧ W.cell? ⟨bu, ou + 7, none⟩ = some (.string x.2.2.2.1) ∧ W.cell? ⟨bu, ou + 8, none⟩ = some (.string x.2.2.2.2) ∧ Below w0.heap.size w0 W :=
  ⟨n0.c0, n0.c1, n0.c2, n0.c3, n0.c4, n0.c5, n0.c6, n0.c7, n0.c8, n1.c0, n1.c1, n1.c2, n1.c3, n1.c4, n1.c5, n1.c6, n1.c7, n1.c8, n2.c0, n2.c1, n2.c2, n2.c3, n2.c4, n2.c5, n2.c6, n2.c7, n2.c8, hB⟩
theorem tri3_step {W W' w0 : World} {bs os bt ot bu ou : Nat} {x : TripD} (h : W.cell? ⟨bs, os, none⟩ = some (.int .i64 x.1.1) ∧ W.cell? ⟨bs, os + 1, none⟩ = some (.string x.1.2.1) ∧ W.cell? ⟨bs, os + 2, none⟩ = some (.string x.1.2.2) ∧ W.cell? ⟨bs, os + 3, none⟩ = some (.int .i64 x.2.1.1) ∧ W.cell? ⟨bs, os + 4, none⟩ = some (.string x.2.1.2.1) ∧ W.cell? ⟨bs, os + 5, none⟩ = some (.string x.2.1.2.2) ∧ W.cell? ⟨bs, os + 6, none⟩ = some (.int .i64 x.2.2.1) ∧ W.cell? ⟨bs, os + 7, none⟩ = some (.string x.2.2.2.1) ∧ W.cell? ⟨bs, os + 8, none⟩ = some (.string x.2.2.2.2) ∧ W.cell? ⟨bt, ot, none⟩ = some (.int .i64 x.1.1) ∧ W.cell? ⟨bt, ot + 1, none⟩ = some (.string x.1.2.1) ∧ W.cell? ⟨bt, ot + 2, none⟩ = some (.string x.1.2.2) ∧ W.cell? ⟨bt, ot + 3, none⟩ = some (.int .i64 x.2.1.1) ∧ W.cell? ⟨bt, ot + 4, none⟩ = some (.string x.2.1.2.1) ∧ W.cell? ⟨bt, ot + 5, none⟩ = some (.string x.2.1.2.2) ∧ W.cell? ⟨bt, ot + 6, none⟩ = some (.int .i64 x.2.2.1) ∧ W.cell? ⟨bt, ot + 7, none⟩ = some (.string x.2.2.2.1) ∧ W.cell? ⟨bt, ot + 8, none⟩ = some (.string x.2.2.2.2) ∧ W.cell? ⟨bu, ou, none⟩ = some (.int .i64 x.1.1) ∧ W.cell? ⟨bu, ou + 1, none⟩ = some (.string x.1.2.1) ∧ W.cell? ⟨bu, ou + 2, none⟩ = some (.string x.1.2.2) ∧ W.cell? ⟨bu, ou + 3, none⟩ = some (.int .i64 x.2.1.1) ∧ W.cell? ⟨bu, ou + 4, none⟩ = some (.string x.2.1.2.1) ∧ W.cell? ⟨bu, ou + 5, none⟩ = some (.string x.2.1.2.2) ∧ W.cell? ⟨bu, ou + 6, none⟩ = some (.int .i64 x.2.2.1) ∧ W.cell? ⟨bu, ou + 7, none⟩ = some (.string x.2.2.2.1) ∧ W.cell? ⟨bu, ou + 8, none⟩ = some (.string x.2.2.2.2) ∧ Below w0.heap.size w0 W) (k : Below W.heap.size W W') : W'.cell? ⟨bs, os, none⟩ = some (.int .i64 x.1.1) ∧ W'.cell? ⟨bs, os + 1, none⟩ = some (.string x.1.2.1) ∧ W'.cell? ⟨bs, os + 2, none⟩ = some (.string x.1.2.2) ∧ W'.cell? ⟨bs, os + 3, none⟩ = some (.int .i64 x.2.1.1) ∧ W'.cell? ⟨bs, os + 4, none⟩ = some (.string x.2.1.2.1) ∧ W'.cell? ⟨bs, os + 5, none⟩ = some (.string x.2.1.2.2) ∧ W'.cell? ⟨bs, os + 6, none⟩ = some (.int .i64 x.2.2.1) ∧ W'.cell? ⟨bs, os + 7, none⟩ = some (.string x.2.2.2.1) ∧ W'.cell? ⟨bs, os + 8, none⟩ = some (.string x.2.2.2.2) ∧ W'.cell? ⟨bt, ot, none⟩ = some (.int .i64 x.1.1) ∧ W'.cell? ⟨bt, ot + 1, none⟩ = some (.string x.1.2.1) ∧ W'.cell? ⟨bt, ot + 2, none⟩ = some (.string x.1.2.2) ∧ W'.cell? ⟨bt, ot + 3, none⟩ = some (.int .i64 x.2.1.1) ∧ W'.cell? ⟨bt, ot + 4, none⟩ = some (.string x.2.1.2.1) ∧ W'.cell? ⟨bt, ot + 5, none⟩ = some (.string x.2.1.2.2) ∧ W'.cell? ⟨bt, ot + 6, none⟩ = some (.int .i64 x.2.2.1) ∧ W'.cell? ⟨bt, ot + 7, none⟩ = some (.string x.2.2.2.1) ∧ W'.cell? ⟨bt, ot + 8, none⟩ = some (.string x.2.2.2.2) ∧ W'.cell? ⟨bu, ou, none⟩ = some (.int .i64 x.1.1) ∧ W'.cell? ⟨bu, ou + 1, none⟩ = some (.string x.1.2.1) ∧ W'.cell? ⟨bu, ou + 2, none⟩ = some (.string x.1.2.2) ∧ W'.cell? ⟨bu, ou + 3, none⟩ = some (.int .i64 x.2.1.1) ∧ W'.cell? ⟨bu, ou + 4, none⟩ = some (.string x.2.1.2.1) ∧ W'.cell? ⟨bu, ou + 5, none⟩ = some (.string x.2.1.2.2) ∧ W'.cell? ⟨bu, ou + 6, none⟩ = some (.int .i64 x.2.2.1) ∧ W'.cell? ⟨bu, ou + 7, none⟩ = some (.string x.2.2.2.1) ∧ W'.cell? ⟨bu, ou + 8, none⟩ = some (.string x.2.2.2.2) ∧ Below w0.heap.size w0 W' := by
  obtain ⟨h0, h1, h2, h3, h4, h5, h6, h7, h8, h9, h10, h11, h12, h13, h14, h15, h16, h17, h18, h19, h20, h21, h22, h23, h24, h25, h26, hB⟩ := h
  exact ⟨cell_below k h0, cell_below k h1, cell_below k h2, cell_below k h3, cell_below k h4, cell_below k h5, cell_below k h6, cell_below k h7, cell_below k h8, cell_below k h9, cell_below k h10, cell_below k h11, cell_below k h12, cell_below k h13, cell_below k h14, cell_below k h15, cell_below k h16, cell_below k h17, cell_below k h18, cell_below k h19, cell_below k h20, cell_below k h21, cell_below k h22, cell_below k h23, cell_below k h24, cell_below k h25, cell_below k h26, below_step hB k⟩
theorem tri3_below {W w0 : World} {bs os bt ot bu ou : Nat} {x : TripD} (h : W.cell? ⟨bs, os, none⟩ = some (.int .i64 x.1.1) ∧ W.cell? ⟨bs, os + 1, none⟩ = some (.string x.1.2.1) ∧ W.cell? ⟨bs, os + 2, none⟩ = some (.string x.1.2.2) ∧ W.cell? ⟨bs, os + 3, none⟩ = some (.int .i64 x.2.1.1) ∧ W.cell? ⟨bs, os + 4, none⟩ = some (.string x.2.1.2.1) ∧ W.cell? ⟨bs, os + 5, none⟩ = some (.string x.2.1.2.2) ∧ W.cell? ⟨bs, os + 6, none⟩ = some (.int .i64 x.2.2.1) ∧ W.cell? ⟨bs, os + 7, none⟩ = some (.string x.2.2.2.1) ∧ W.cell? ⟨bs, os + 8, none⟩ = some (.string x.2.2.2.2) ∧ W.cell? ⟨bt, ot, none⟩ = some (.int .i64 x.1.1) ∧ W.cell? ⟨bt, ot + 1, none⟩ = some (.string x.1.2.1) ∧ W.cell? ⟨bt, ot + 2, none⟩ = some (.string x.1.2.2) ∧ W.cell? ⟨bt, ot + 3, none⟩ = some (.int .i64 x.2.1.1) ∧ W.cell? ⟨bt, ot + 4, none⟩ = some (.string x.2.1.2.1) ∧ W.cell? ⟨bt, ot + 5, none⟩ = some (.string x.2.1.2.2) ∧ W.cell? ⟨bt, ot + 6, none⟩ = some (.int .i64 x.2.2.1) ∧ W.cell? ⟨bt, ot + 7, none⟩ = some (.string x.2.2.2.1) ∧ W.cell? ⟨bt, ot + 8, none⟩ = some (.string x.2.2.2.2) ∧ W.cell? ⟨bu, ou, none⟩ = some (.int .i64 x.1.1) ∧ W.cell? ⟨bu, ou + 1, none⟩ = some (.string x.1.2.1) ∧ W.cell? ⟨bu, ou + 2, none⟩ = some (.string x.1.2.2) ∧ W.cell? ⟨bu, ou + 3, none⟩ = some (.int .i64 x.2.1.1) ∧ W.cell? ⟨bu, ou + 4, none⟩ = some (.string x.2.1.2.1) ∧ W.cell? ⟨bu, ou + 5, none⟩ = some (.string x.2.1.2.2) ∧ W.cell? ⟨bu, ou + 6, none⟩ = some (.int .i64 x.2.2.1) ∧ W.cell? ⟨bu, ou + 7, none⟩ = some (.string x.2.2.2.1) ∧ W.cell? ⟨bu, ou + 8, none⟩ = some (.string x.2.2.2.2) ∧ Below w0.heap.size w0 W) : Below w0.heap.size w0 W := h.2.2.2.2.2.2.2.2.2.2.2.2.2.2.2.2.2.2.2.2.2.2.2.2.2.2.2
theorem tri4_start {W w0 : World} {bs os bt ot bu ou bp op : Nat} {x y : TripD} (n0 : Nine W bs os x) (n1 : Nine W bt ot x) (n2 : Nine W bu ou x) (n3 : Nine W bp op y) (hB : Below w0.heap.size w0 W) : W.cell? ⟨bs, os, none⟩ = some (.int .i64 x.1.1) ∧ W.cell? ⟨bs, os + 1, none⟩ = some (.string x.1.2.1) ∧ W.cell? ⟨bs, os + 2, none⟩ = some (.string x.1.2.2) ∧ W.cell? ⟨bs, os + 3, none⟩ = some (.int .i64 x.2.1.1) ∧ W.cell? ⟨bs, os + 4, none⟩ = some (.string x.2.1.2.1) ∧ W.cell? ⟨bs, os + 5, none⟩ = some (.string x.2.1.2.2) ∧ W.cell? ⟨bs, os + 6, none⟩ = some (.int .i64 x.2.2.1) ∧ W.cell? ⟨bs, os + 7, none⟩ = some (.string x.2.2.2.1) ∧ W.cell? ⟨bs, os + 8, none⟩ = some (.string x.2.2.2.2) ∧ W.cell? ⟨bt, ot, none⟩ = some (.int .i64 x.1.1) ∧ W.cell? ⟨bt, ot + 1, none⟩ = some (.string x.1.2.1) ∧ W.cell? ⟨bt, ot + 2, none⟩ = some (.string x.1.2.2) ∧ W.cell? ⟨bt, ot + 3, none⟩ = some (.int .i64 x.2.1.1) ∧ W.cell? ⟨bt, ot + 4, none⟩ = some (.string x.2.1.2.1) ∧ W.cell? ⟨bt, ot + 5, none⟩ = some (.string x.2.1.2.2) ∧ W.cell? ⟨bt, ot + 6, none⟩ = some (.int .i64 x.2.2.1) ∧ W.cell? ⟨bt, ot + 7, none⟩ = some (.string x.2.2.2.1) ∧ W.cell? ⟨bt, ot + 8, none⟩ = some (.string x.2.2.2.2) ∧ W.cell? ⟨bu, ou, none⟩ = some (.int .i64 x.1.1) ∧ W.cell? ⟨bu, ou + 1, none⟩ = some (.string x.1.2.1) ∧ W.cell? ⟨bu, ou + 2, none⟩ = some (.string x.1.2.2) ∧ W.cell? ⟨bu, ou + 3, none⟩ = some (.int .i64 x.2.1.1) ∧ W.cell? ⟨bu, ou + 4, none⟩ = some (.string x.2.1.2.1) ∧ W.cell? ⟨bu, ou + 5, none⟩ = some (.string x.2.1.2.2) ∧ W.cell? ⟨bu, ou + 6, none⟩ = some (.int .i64 x.2.2.1) ∧ W.cell? ⟨bu, ou + 7, none⟩ = some (.string x.2.2.2.1) ∧ W.cell? ⟨bu, ou + 8, none⟩ = some (.string x.2.2.2.2) ∧ W.cell? ⟨bp, op, none⟩ = some (.int .i64 y.1.1) ∧ W.cell? ⟨bp, op + 1, none⟩ = some (.string y.1.2.1) ∧ W.cell? ⟨bp, op + 2, none⟩ = some (.string y.1.2.2) ∧ W.cell? ⟨bp, op + 3, none⟩ = some (.int .i64 y.2.1.1) ∧ W.cell? ⟨bp, op + 4, none⟩ = some (.string y.2.1.2.1) ∧ W.cell? ⟨bp, op + 5, none⟩ = some (.string y.2.1.2.2) ∧ W.cell? ⟨bp, op + 6, none⟩ = some (.int .i64 y.2.2.1) ∧ W.cell? ⟨bp, op + 7, none⟩ = some (.string y.2.2.2.1) ∧ W.cell? ⟨bp, op + 8, none⟩ = some (.string y.2.2.2.2) ∧ Below w0.heap.size w0 W :=
  ⟨n0.c0, n0.c1, n0.c2, n0.c3, n0.c4, n0.c5, n0.c6, n0.c7, n0.c8, n1.c0, n1.c1, n1.c2, n1.c3, n1.c4, n1.c5, n1.c6, n1.c7, n1.c8, n2.c0, n2.c1, n2.c2, n2.c3, n2.c4, n2.c5, n2.c6, n2.c7, n2.c8, n3.c0, n3.c1, n3.c2, n3.c3, n3.c4, n3.c5, n3.c6, n3.c7, n3.c8, hB⟩
theorem tri4_step {W W' w0 : World} {bs os bt ot bu ou bp op : Nat} {x y : TripD} (h : W.cell? ⟨bs, os, none⟩ = some (.int .i64 x.1.1) ∧ W.cell? ⟨bs, os + 1, none⟩ = some (.string x.1.2.1) ∧ W.cell? ⟨bs, os + 2, none⟩ = some (.string x.1.2.2) ∧ W.cell? ⟨bs, os + 3, none⟩ = some (.int .i64 x.2.1.1) ∧ W.cell? ⟨bs, os + 4, none⟩ = some (.string x.2.1.2.1) ∧ W.cell? ⟨bs, os + 5, none⟩ = some (.string x.2.1.2.2) ∧ W.cell? ⟨bs, os + 6, none⟩ = some (.int .i64 x.2.2.1) ∧ W.cell? ⟨bs, os + 7, none⟩ = some (.string x.2.2.2.1) ∧ W.cell? ⟨bs, os + 8, none⟩ = some (.string x.2.2.2.2) ∧ W.cell? ⟨bt, ot, none⟩ = some (.int .i64 x.1.1) ∧ W.cell? ⟨bt, ot + 1, none⟩ = some (.string x.1.2.1) ∧ W.cell? ⟨bt, ot + 2, none⟩ = some (.string x.1.2.2) ∧ W.cell? ⟨bt, ot + 3, none⟩ = some (.int .i64 x.2.1.1) ∧ W.cell? ⟨bt, ot + 4, none⟩ = some (.string x.2.1.2.1) ∧ W.cell? ⟨bt, ot + 5, none⟩ = some (.string x.2.1.2.2) ∧ W.cell? ⟨bt, ot + 6, none⟩ = some (.int .i64 x.2.2.1) ∧ W.cell? ⟨bt, ot + 7, none⟩ = some (.string x.2.2.2.1) ∧ W.cell? ⟨bt, ot + 8, none⟩ = some (.string x.2.2.2.2) ∧ W.cell? ⟨bu, ou, none⟩ = some (.int .i64 x.1.1) ∧ W.cell? ⟨bu, ou + 1, none⟩ = some (.string x.1.2.1) ∧ W.cell? ⟨bu, ou + 2, none⟩ = some (.string x.1.2.2) ∧ W.cell? ⟨bu, ou + 3, none⟩ = some (.int .i64 x.2.1.1) ∧ W.cell? ⟨bu, ou + 4, none⟩ = some (.string x.2.1.2.1) ∧ W.cell? ⟨bu, ou + 5, none⟩ = some (.string x.2.1.2.2) ∧ W.cell? ⟨bu, ou + 6, none⟩ = some (.int .i64 x.2.2.1) ∧ W.cell? ⟨bu, ou + 7, none⟩ = some (.string x.2.2.2.1) ∧ W.cell? ⟨bu, ou + 8, none⟩ = some (.string x.2.2.2.2) ∧ W.cell? ⟨bp, op, none⟩ = some (.int .i64 y.1.1) ∧ W.cell? ⟨bp, op + 1, none⟩ = some (.string y.1.2.1) ∧ W.cell? ⟨bp, op + 2, none⟩ = some (.string y.1.2.2) ∧ W.cell? ⟨bp, op + 3, none⟩ = some (.int .i64 y.2.1.1) ∧ W.cell? ⟨bp, op + 4, none⟩ = some (.string y.2.1.2.1) ∧ W.cell? ⟨bp, op + 5, none⟩ = some (.string y.2.1.2.2) ∧ W.cell? ⟨bp, op + 6, none⟩ = some (.int .i64 y.2.2.1) ∧ W.cell? ⟨bp, op + 7, none⟩ = some (.string y.2.2.2.1) ∧ W.cell? ⟨bp, op + 8, none⟩ = some (.string y.2.2.2.2) ∧ Below w0.heap.size w0 W) (k : Below W.heap.size W W') : W'.cell? ⟨bs, os, none⟩ = some (.int .i64 x.1.1) ∧ W'.cell? ⟨bs, os + 1, none⟩ = some (.string x.1.2.1) ∧ W'.cell? ⟨bs, os + 2, none⟩ = some (.string x.1.2.2) ∧ W'.cell? ⟨bs, os + 3, none⟩ = some (.int .i64 x.2.1.1) ∧ W'.cell? ⟨bs, os + 4, none⟩ = some (.string x.2.1.2.1) ∧ W'.cell? ⟨bs, os + 5, none⟩ = some (.string x.2.1.2.2) ∧ W'.cell? ⟨bs, os + 6, none⟩ = some (.int .i64 x.2.2.1) ∧ W'.cell? ⟨bs, os + 7, none⟩ = some (.string x.2.2.2.1) ∧ W'.cell? ⟨bs, os + 8, none⟩ = some (.string x.2.2.2.2) ∧ W'.cell? ⟨bt, ot, none⟩ = some (.int .i64 x.1.1) ∧ W'.cell? ⟨bt, ot + 1, none⟩ = some (.string x.1.2.1) ∧ W'.cell? ⟨bt, ot + 2, none⟩ = some (.string x.1.2.2) ∧ W'.cell? ⟨bt, ot + 3, none⟩ = some (.int .i64 x.2.1.1) ∧ W'.cell? ⟨bt, ot + 4, none⟩ = some (.string x.2.1.2.1) ∧ W'.cell? ⟨bt, ot + 5, none⟩ = some (.string x.2.1.2.2) ∧ W'.cell? ⟨bt, ot + 6, none⟩ = some (.int .i64 x.2.2.1) ∧ W'.cell? ⟨bt, ot + 7, none⟩ = some (.string x.2.2.2.1) ∧ W'.cell? ⟨bt, ot + 8, none⟩ = some (.string x.2.2.2.2) ∧ W'.cell? ⟨bu, ou, none⟩ = some (.int .i64 x.1.1) ∧ W'.cell? ⟨bu, ou + 1, none⟩ = some (.string x.1.2.1) ∧ W'.cell? ⟨bu, ou + 2, none⟩ = some (.string x.1.2.2) ∧ W'.cell? ⟨bu, ou + 3, none⟩ = some (.int .i64 x.2.1.1) ∧ W'.cell? ⟨bu, ou + 4, none⟩ = some (.string x.2.1.2.1) ∧ W'.cell? ⟨bu, ou + 5, none⟩ = some (.string x.2.1.2.2) ∧ W'.cell? ⟨bu, ou + 6, none⟩ = some (.int .i64 x.2.2.1) ∧ W'.cell? ⟨bu, ou + 7, none⟩ = some (.string x.2.2.2.1) ∧ W'.cell? ⟨bu, ou + 8, none⟩ = some (.string x.2.2.2.2) ∧ W'.cell? ⟨bp, op, none⟩ = some (.int .i64 y.1.1) ∧ W'.cell? ⟨bp, op + 1, none⟩ = some (.string y.1.2.1) ∧ W'.cell? ⟨bp, op + 2, none⟩ = some (.string y.1.2.2) ∧ W'.cell? ⟨bp, op + 3, none⟩ = some (.int .i64 y.2.1.1) ∧ W'.cell? ⟨bp, op + 4, none⟩ = some (.string y.2.1.2.1) ∧ W'.cell? ⟨bp, op + 5, none⟩ = some (.string y.2.1.2.2) ∧ W'.cell? ⟨bp, op + 6, none⟩ = some (.int .i64 y.2.2.1) ∧ W'.cell? ⟨bp, op + 7, none⟩ = some (.string y.2.2.2.1) ∧ W'.cell? ⟨bp, op + 8, none⟩ = some (.string y.2.2.2.2) ∧ Below w0.heap.size w0 W' := by
  obtain ⟨h0, h1, h2, h3, h4, h5, h6, h7, h8, h9, h10, h11, h12, h13, h14, h15, h16, h17, h18, h19, h20, h21, h22, h23, h24, h25, h26, h27, h28, h29, h30, h31, h32, h33, h34, h35, hB⟩ := h
  exact ⟨cell_below k h0, cell_below k h1, cell_below k h2, cell_below k h3, cell_below k h4, cell_below k h5, cell_below k h6, cell_below k h7, cell_below k h8, cell_below k h9, cell_below k h10, cell_below k h11, cell_below k h12, cell_below k h13, cell_below k h14, cell_below k h15, cell_below k h16, cell_below k h17, cell_below k h18, cell_below k h19, cell_below k h20, cell_below k h21, cell_below k h22, cell_below k h23, cell_below k h24, cell_below k h25, cell_below k h26, cell_below k h27, cell_below k h28, cell_below k h29, cell_below k h30, cell_below k h31, cell_below k h32, cell_below k h33, cell_below k h34, cell_below k h35, below_step hB k⟩
theorem tri4_below {W w0 : World} {bs os bt ot bu ou bp op : Nat} {x y : TripD} (h : W.cell? ⟨bs, os, none⟩ = some (.int .i64 x.1.1) ∧ W.cell? ⟨bs, os + 1, none⟩ = some (.string x.1.2.1) ∧ W.cell? ⟨bs, os + 2, none⟩ = some (.string x.1.2.2) ∧ W.cell? ⟨bs, os + 3, none⟩ = some (.int .i64 x.2.1.1) ∧ W.cell? ⟨bs, os + 4, none⟩ = some (.string x.2.1.2.1) ∧ W.cell? ⟨bs, os + 5, none⟩ = some (.string x.2.1.2.2) ∧ W.cell? ⟨bs, os + 6, none⟩ = some (.int .i64 x.2.2.1) ∧ W.cell? ⟨bs, os + 7, none⟩ = some (.string x.2.2.2.1) ∧ W.cell? ⟨bs, os + 8, none⟩ = some (.string x.2.2.2.2) ∧ W.cell? ⟨bt, ot, none⟩ = some (.int .i64 x.1.1) ∧ W.cell? ⟨bt, ot + 1, none⟩ = some (.string x.1.2.1) ∧ W.cell? ⟨bt, ot + 2, none⟩ = some (.string x.1.2.2) ∧ W.cell? ⟨bt, ot + 3, none⟩ = some (.int .i64 x.2.1.1) ∧ W.cell? ⟨bt, ot + 4, none⟩ = some (.string x.2.1.2.1) ∧ W.cell? ⟨bt, ot + 5, none⟩ = some (.string x.2.1.2.2) ∧ W.cell? ⟨bt, ot + 6, none⟩ = some (.int .i64 x.2.2.1) ∧ W.cell? ⟨bt, ot + 7, none⟩ = some (.string x.2.2.2.1) ∧ W.cell? ⟨bt, ot + 8, none⟩ = some (.string x.2.2.2.2) ∧ W.cell? ⟨bu, ou, none⟩ = some (.int .i64 x.1.1) ∧ W.cell? ⟨bu, ou + 1, none⟩ = some (.string x.1.2.1) ∧ W.cell? ⟨bu, ou + 2, none⟩ = some (.string x.1.2.2) ∧ W.cell? ⟨bu, ou + 3, none⟩ = some (.int .i64 x.2.1.1) ∧ W.cell? ⟨bu, ou + 4, none⟩ = some (.string x.2.1.2.1) ∧ W.cell? ⟨bu, ou + 5, none⟩ = some (.string x.2.1.2.2) ∧ W.cell? ⟨bu, ou + 6, none⟩ = some (.int .i64 x.2.2.1) ∧ W.cell? ⟨bu, ou + 7, none⟩ = some (.string x.2.2.2.1) ∧ W.cell? ⟨bu, ou + 8, none⟩ = some (.string x.2.2.2.2) ∧ W.cell? ⟨bp, op, none⟩ = some (.int .i64 y.1.1) ∧ W.cell? ⟨bp, op + 1, none⟩ = some (.string y.1.2.1) ∧ W.cell? ⟨bp, op + 2, none⟩ = some (.string y.1.2.2) ∧ W.cell? ⟨bp, op + 3, none⟩ = some (.int .i64 y.2.1.1) ∧ W.cell? ⟨bp, op + 4, none⟩ = some (.string y.2.1.2.1) ∧ W.cell? ⟨bp, op + 5, none⟩ = some (.string y.2.1.2.2) ∧ W.cell? ⟨bp, op + 6, none⟩ = some (.int .i64 y.2.2.1) ∧ W.cell? ⟨bp, op + 7, none⟩ = some (.string y.2.2.2.1) ∧ W.cell? ⟨bp, op + 8, none⟩ = some (.string y.2.2.2.2) ∧ Below w0.heap.size w0 W) : Below w0.heap.size w0 W := h.2.2.2.2.2.2.2.2.2.2.2.2.2.2.2.2.2.2.2.2.2.2.2.2.2.2.2.2.2.2.2.2.2.2.2.2

set_option maxRecDepth 100000 in
set_option maxHeartbeats 8000000 in
theorem termSorts_walk (v : Value) (ds : List TripD) (q : Int) (m : Int) (w : World) (hm : w.cell? ⟨0, 0, none⟩ = some (.int .i64 m)) (hv : SliceT w v ds) :
    Calls Tryd.prog 4 #[v, .int .i64 q] w fun e w' => e = .returned (.bool true) ∧ Below w.heap.size w w' := by
  obtain ⟨bo, bc, rfl, hbr, hbc⟩ : ∃ bo bc, v = .slice bo ds.length bc ∧ (0 < ds.length → ∃ b off, bo = some ⟨b, off, none⟩ ∧ RowC w b off (cellsT ds)) ∧ ds.length ≤ bc := by
    rcases hv with ⟨rfl, h⟩ | ⟨b, off, cap, rfl, h1, _, hr⟩
    · exact ⟨none, 0, by rw [h]; rfl, fun h' => absurd h' (by rw [h]; simp), by rw [h]; exact Nat.le_refl _⟩
    · exact ⟨some ⟨b, off, none⟩, cap, rfl, fun _ => ⟨b, off, rfl, hr⟩, h1⟩
  have HM := Lib.hid hm
  have HV := Lib.hid hv
  have HBR := Lib.hid hbr
  have HBC := Lib.hid hbc
  have MU := Lib.hid (fun W h => much_slice (.slice bo ds.length bc) ds 100 (by omega) W h)
  have KN := Lib.hid (fun W h => known2_any m W h)
  clear hm hv hbr hbc
  obtain ⟨n, hn⟩ : ∃ n, n = ds.length := ⟨_, rfl⟩
  have HN := Lib.hid hn
  rw [← hn] at HV HBR HBC MU ⊢
  clear hn
  go_enter Tryd.func4, Tryd.ntmps4
  go_wp2_with fail
  refine (MU.out _ HV.out).mono ?_
  rintro e w1 ⟨r, rfl, hle, hB1⟩
  have HL := Lib.hid hle
  have HB1 := Lib.hid hB1
  clear hle hB1 MU
  cases r with
  | true =>
    go_wp2_with fail
    refine (KN.out _ (cell_below HB1.out HM.out)).mono ?_
    rintro e w2 ⟨rfl, hB2⟩
    have HF := Lib.hid (below_step HB1.out hB2)
    clear hB2
    go_wp2_with fail
    go_ret
    exact ⟨rfl, HF.out⟩
  | false =>
    have hd : n ≤ 100 := by have := HL.out rfl; have := HN.out; omega
    clear HL
    by_cases hq : q < 0
    · have dq : decide (q < 0) = true := by simpa using hq
      go_wp2_with fail
      refine (KN.out _ (cell_below HB1.out HM.out)).mono ?_
      rintro e w2 ⟨rfl, hB2⟩
      have HF := Lib.hid (below_step HB1.out hB2)
      clear hB2
      go_wp2_with fail
      go_ret
      exact ⟨rfl, HF.out⟩
    have dq : decide (q < 0) = false := by simpa using hq
    by_cases hqn : (n : Int) < q
    · have dn : decide ((n : Int) < q) = true := by simpa using hqn
      go_wp2_with fail
      refine (KN.out _ (cell_below HB1.out HM.out)).mono ?_
      rintro e w2 ⟨rfl, hB2⟩
      have HF := Lib.hid (below_step HB1.out hB2)
      clear hB2
      go_wp2_with fail
      go_ret
      exact ⟨rfl, HF.out⟩
    obtain ⟨p, rfl⟩ : ∃ p : Nat, q = (p : Int) := ⟨q.toNat, by omega⟩
    have dn : decide ((n : Int) < (p : Int)) = false := by simpa using hqn
    have hpn : p ≤ n := by omega
    clear hq hqn
    go_wp2_with fail
    refine (termSort_any _ ds _ (HV.out.below HB1.out) (by have := HN.out; omega)).mono ?_
    rintro e w2 ⟨rs, rfl, hso, hB2⟩
    have HSO := Lib.hid hso
    have HB2 := Lib.hid (below_step HB1.out hB2)
    obtain ⟨so, sc, rfl, hsc, hsm, hsg⟩ := owns_form hso
    have HSG := Lib.hid hsg
    have HSC := Lib.hid hsc
    clear hso hB2 HB1 hsc hsm hsg
    have e0 : IntKind.i64.wrap ((n : Int) - 1) = (n : Int) - 1 := IntWalk.i64_in _ (by omega)
    go_wp2_with fail
    go_loopg [6, 7] (n + 1) (fun gk s6 s7 wr => ∃ i j : Nat, i + j = n ∧ i ≤ gk ∧ s7 = .int .i64 ((i : Int) - 1) ∧ Hid (wr.ownsRow w2.heap.size 26 9 s6 (ds.reverse.take j).length (cellsT (ds.reverse.take j)) ∧ Below w2.heap.size w2 wr))
    case atStart => exact ⟨n, 0, rfl, by omega, rfl, Lib.hid ⟨World.ownsRow_nil _ _ _ _, Below.refl _ _⟩⟩
    case round =>
      obtain ⟨i, j, hij, hg, rfl, HBK⟩ := hrel
      cases i with
      | succ i =>
        rw [show (((i + 1 : Nat) : Int) - 1) = (i : Int) by omega]
        have d1 : decide ((0 : Int) ≤ (i : Int)) = true := by simp
        have i0 : (0 : Int) ≤ (i : Int) := by omega
        have i1 : (i : Int) < (n : Int) := by omega
        have e1 : IntKind.i64.wrap ((i : Int) - 1) = (i : Int) - 1 := IntWalk.i64_in _ (by omega)
        obtain ⟨x, hx⟩ : ∃ x, ds[i]? = some x := ⟨_, List.getElem?_eq_getElem (by have := HN.out; omega)⟩
        obtain ⟨b, off, rfl, hr⟩ := HBR.out (by omega)
        have hwr := HBK.out.2
        obtain ⟨c0, c1, c2, c3, c4, c5, c6, c7, c8⟩ := (hr.below (below_step HB2.out hwr)).nine hx
        have HX : Hid (ds.reverse.take (j + 1) = ds.reverse.take j ++ [x]) := Lib.hid (by
          rw [List.take_add_one, List.getElem?_reverse (by have := HN.out; omega), show ds.length - 1 - j = i by have := HN.out; omega, hx]
          rfl)
        have HLN : Hid ((ds.reverse.take j).length ≤ 1000000) := Lib.hid (by rw [List.length_take]; omega)
        have HS2 : Hid (w2.heap.size ≤ wr.heap.size + 1) := Lib.hid (by have := hwr.size; omega)
        clear hx hr hwr
        go_wp2_with (at_builtin; refine wpList_append_slice rfl _ _ rfl w2.heap.size _ (ds.reverse.take j) rfl (HBK.out.1.alloc _) _ [x] rfl (one_slice _ x) HLN.out (by simp) (by show _ ≤ (World.alloc _ _).heap.size; simp only [World.alloc, Array.size_push]; exact HS2.out) ?_; intro vb w3 hown hB3)
        have HN3 : Hid (w3.ownsRow w2.heap.size 26 9 vb (ds.reverse.take (j + 1)).length (cellsT (ds.reverse.take (j + 1))) ∧ Below w2.heap.size w2 w3) := Lib.hid (by
          rw [HX.out]
          exact ⟨hown, (HBK.out.2.alloc HBK.out.2.size _).trans hB3⟩)
        clear hown hB3 c0 c1 c2 c3 c4 c5 c6 c7 c8
        go_wp2_with fail
        go_roundg i
        case measure => omega
        case rel => exact ⟨i, j + 1, by omega, Nat.le_refl _, rfl, HN3⟩
      | zero =>
        obtain rfl : n = j := by omega
        have HBW : Hid (wr.ownsRow w2.heap.size 26 9 u6 ds.reverse.length (cellsT ds.reverse) ∧ Below w2.heap.size w2 wr) := Lib.hid (by
          have := HBK.out
          rwa [List.take_of_length_le (by rw [List.length_reverse, HN.out]; exact Nat.le_refl _)] at this)
        clear HBK
        have HTK : Hid (SliceT wr (.slice bo p bc) (ds.take p)) := Lib.hid (slice_take (HV.out.below (below_step HB2.out HBW.out.2)) hpn)
        have p0 : (0 : Int) ≤ (p : Int) := by omega
        have p1 : (p : Int) ≤ (bc : Int) := by have := HBC.out; omega
        have p2 : p ≤ bc := by have := HBC.out; omega
        have p3 : (p : Int) ≤ (n : Int) := by omega
        have HLT : Hid ((ds.take p).length ≤ 1000000) := Lib.hid (by rw [List.length_take]; omega)
        have HLR : Hid (ds.reverse.length ≤ 1000000) := Lib.hid (by rw [List.length_reverse]; have := HN.out; omega)
        go_wp2_with (at_builtin; refine wpList_append_slice rfl _ _ rfl w2.heap.size _ ds.reverse rfl HBW.out.1 _ (ds.take p) rfl HTK.out HLR.out HLT.out HBW.out.2.size ?_; intro vt w3 hown hB3)
        have HT3 := Lib.hid (owns_slice hown)
        have HB3 := Lib.hid (HBW.out.2.trans hB3)
        clear hown hB3
        refine (termSort_any _ _ _ HT3.out (by rw [List.length_append, List.length_reverse, List.length_take]; have := HN.out; omega)).mono ?_
        rintro e w4 ⟨rt, rfl, hto, hB4⟩
        have EXT : sortL cmpT (ds.reverse ++ ds.take p) = sortL cmpT ds := sortL_ext ord_triple (fun x => by
          rw [List.mem_append, List.mem_reverse]
          exact ⟨fun h => h.elim id List.mem_of_mem_take, .inl⟩)
        rw [EXT] at hto
        have HTO := Lib.hid hto
        have HB4 := Lib.hid (below_step HB3.out hB4)
        obtain ⟨tt, tc, rfl, htc, htm, htg⟩ := owns_form hto
        have HTG := Lib.hid htg
        clear hto hB4 HB3 htc htm htg EXT HT3 HTK HLT HLR HBW
        have HS4 : Hid (SliceT w4 (.slice so (sortL cmpT ds).length sc) (sortL cmpT ds)) := Lib.hid ((owns_slice HSO.out).below HB4.out)
        have HLL : Hid ((sortL cmpT ds).length ≤ 1000000) := Lib.hid (by have := sortL_length ds; have := HN.out; omega)
        go_wp2_with fail
        refine (termSort_any _ _ _ HS4.out HLL.out).mono ?_
        rintro e w5 ⟨ru, rfl, huo, hB5⟩
        rw [sortL_self ord_triple (sortL_strict ord_triple ds)] at huo
        obtain ⟨uo, uc, rfl, huc, hum, hug⟩ := owns_form huo
        have HUG := Lib.hid hug
        have HB5 := Lib.hid (below_step HB2.out (below_step HB4.out hB5))
        have ROWS : Hid (∀ g : Nat, so = some ⟨g, 0, none⟩ → RowC w5 g 0 (cellsT (sortL cmpT ds))) := Lib.hid (fun g e => by subst e; exact (owns_row HSO.out).below (below_step HB4.out hB5))
        have ROWT : Hid (∀ g : Nat, tt = some ⟨g, 0, none⟩ → RowC w5 g 0 (cellsT (sortL cmpT ds))) := Lib.hid (fun g e => by subst e; exact (owns_row HTO.out).below hB5)
        have ROWU : Hid (∀ g : Nat, uo = some ⟨g, 0, none⟩ → RowC w5 g 0 (cellsT (sortL cmpT ds))) := Lib.hid (fun g e => by subst e; exact owns_row huo)
        have HV5 : Hid (SliceT w5 (.slice bo n bc) ds) := Lib.hid (HV.out.below HB5.out)
        have HS5 : Hid (SliceT w5 (.slice so (sortL cmpT ds).length sc) (sortL cmpT ds)) := Lib.hid (HS4.out.below hB5)
        have STR := Lib.hid (sortL_strict ord_triple ds)
        have MEM := Lib.hid (sortL_mem ord_triple ds)
        clear huo hB5 HSO HTO HS4 HB4 huc hum hug
        obtain ⟨L, hLe⟩ : ∃ L, L = sortL cmpT ds := ⟨_, rfl⟩
        rw [← hLe] at ROWS ROWT ROWU HS5 STR MEM HSG HTG HUG HLL HSC ⊢
        clear hLe
        obtain ⟨k, hk⟩ : ∃ k, k = L.length := ⟨_, rfl⟩
        have HK := Lib.hid hk
        rw [← hk] at HS5 HSG HTG HUG HLL HSC ⊢
        clear hk
        have hkm : k ≤ 1000000 := HLL.out
        go_wp2_with fail
        go_loopg [10] k (fun gk s wr => ∃ i : Nat, i ≤ k ∧ k - i ≤ gk ∧ s = .int .i64 i ∧ Hid (Below w5.heap.size w5 wr))
        case atStart => exact ⟨0, Nat.zero_le _, by omega, rfl, Lib.hid (Below.refl _ _)⟩
        case round =>
          obtain ⟨i, hi, hg2, rfl, HBX⟩ := hrel
          by_cases hlt : i < k
          · obtain ⟨x, hx⟩ : ∃ x, L[i]? = some x := ⟨_, List.getElem?_eq_getElem (by have := HK.out; omega)⟩
            have d2 : decide ((i : Int) < (k : Int)) = true := by simpa using hlt
            have i0 : (0 : Int) ≤ (i : Int) := by omega
            have i1 : (i : Int) < (k : Int) := by omega
            obtain ⟨gs, rfl⟩ := HSG.out (by omega)
            obtain ⟨gt, rfl⟩ := HTG.out (by omega)
            obtain ⟨gu, rfl⟩ := HUG.out (by omega)
            have NS := Lib.hid ((ROWS.out gs rfl).nine hx)
            have NT := Lib.hid ((ROWT.out gt rfl).nine hx)
            have NU := Lib.hid ((ROWU.out gu rfl).nine hx)
            rw [Nat.zero_add] at NS NT NU
            have hmx : Hid (x ∈ ds) := Lib.hid ((MEM.out x).1 (List.mem_of_getElem? hx))
            have MH : ∀ W, Below w5.heap.size w5 W → Calls Tryd.prog 17 #[.slice bo n bc, tripleV x.1 x.2.1 x.2.2] W (fun e w' => e = .returned (.bool true) ∧ Below W.heap.size W w') := fun W hW =>
              (has_any _ ds x W (HV5.out.below hW)).mono fun e w' ⟨r, he, hr, hB⟩ => ⟨by rw [he, hr.2 hmx.out], hB⟩
            have nn := trip_neq x x
            rw [decide_eq_true rfl] at nn
            have HX := Lib.hid hx
            clear hx
            by_cases hz : i = 0
            · subst hz
              have MG : ∀ n' os', Calls Tryd.prog 17 #[.slice bo n bc, tripleV x.1 x.2.1 x.2.2] (Go.Sort.grow (wr.drewN n') os') (fun e w' => e = .returned (.bool true) ∧ ∃ q os'', w' = Go.Sort.grow ((Go.Sort.grow (wr.drewN n') os').drewN q) os'') := fun n' os' =>
                (has_grown _ ds x _ (HV5.out.below (below_step HBX.out (below_grow wr n' os')))).mono fun e w' ⟨r, he, hr, hB⟩ => ⟨by rw [he, hr.2 hmx.out], hB⟩
              have mixed : Tryd.prog.follows .mixedOrders = true := by kernel_rfl
              obtain ⟨a0, a1, a2, a3, a4, a5, a6, a7, a8⟩ := nine_grown (NS.out.below HBX.out)
              obtain ⟨b0, b1, b2, b3, b4, b5, b6, b7, b8⟩ := nine_grown (NT.out.below HBX.out)
              obtain ⟨c0, c1, c2, c3, c4, c5, c6, c7, c8⟩ := nine_grown (NU.out.below HBX.out)
              clear MH
              go_wp2_with fail
              refine wp_region_quiet_grown (by assumption) (by kernel_rfl) ?_
              repeat (go_big_quiet_step (fail))
              quiet_step (refine Calls.grown_of (MG _ _))
              repeat (go_big_quiet_step (fail))
              refine wpQuiet_nil ?_
              intro _ hw'
              obtain ⟨⟨nq, osq⟩, hw''⟩ := hw'
              subst hw''
              have HBN : Hid (Below w5.heap.size w5 (Go.Sort.grow (wr.drewN nq) osq)) := Lib.hid (below_step HBX.out (below_grow wr nq osq))
              generalize Go.Sort.grow (wr.drewN nq) osq = w7 at HBN ⊢
              clear MG nn
              go_wp2_with fail
              go_roundg (k - (0 + 1))
              case measure => omega
              case rel => exact ⟨0 + 1, by omega, Nat.le_refl _, by go_num, HBN⟩
            · have dz : decide ((0 : Int) < (i : Int)) = true := by simp; omega
              have dz' : decide (0 < i) = true := by simp; omega
              obtain ⟨y, hy⟩ : ∃ y, L[i - 1]? = some y := ⟨_, List.getElem?_eq_getElem (by have := HK.out; omega)⟩
              have NP := Lib.hid ((ROWS.out gs rfl).nine hy)
              rw [Nat.zero_add] at NP
              have hlt0 : cmpT y x < 0 := by
                have h1 := List.pairwise_iff_getElem.1 STR.out (i - 1) i (by have := HK.out; omega) (by have := HK.out; omega) (by omega)
                have a1 : L[i - 1]'(by have := HK.out; omega) = y := Option.some.inj ((List.getElem?_eq_getElem _).symm.trans hy)
                have a2 : L[i]'(by have := HK.out; omega) = x := Option.some.inj ((List.getElem?_eq_getElem _).symm.trans HX.out)
                rwa [a1, a2] at h1
              have MC := fun W => compareTriples_any y.1 y.2.1 y.2.2 x.1 x.2.1 x.2.2 W
              have ec : cmpT (y.1, y.2.1, y.2.2) (x.1, x.2.1, x.2.2) = cmpT y x := rfl
              rw [ec] at MC
              clear ec hy
              generalize cmpT y x = r at MC hlt0
              have dr : decide (0 ≤ r) = false := by simp; omega
              have e1 : IntKind.i64.wrap ((i : Int) - 1) = (i : Int) - 1 := IntWalk.i64_in _ (by omega)
              have e2 : (0 : Int) ≤ (i : Int) - 1 := by omega
              have e3 : (i : Int) - 1 < (k : Int) := by omega
              have e4 : ((i : Int) - 1).toNat = i - 1 := by omega
              have f0 : 1 ≤ i := by omega
              have f1 : (1 : Int) ≤ (i : Int) := by omega
              have f2 : (i : Int) ≤ (k : Int) := by omega
              have f3 : (i : Int) < (k : Int) + 1 := by omega
              have f4 : i ≤ k := by omega
              have f5 : i < k + 1 := by omega
              have f6 : i - 1 < k := by omega
              have START := Lib.hid (tri4_start (NS.out.below HBX.out) (NT.out.below HBX.out) (NU.out.below HBX.out) (NP.out.below HBX.out) HBX.out)
              have STARTd := Lib.hid (tri4_start (NS.out.below HBX.out.drew) (NT.out.below HBX.out.drew) (NU.out.below HBX.out.drew) (NP.out.below HBX.out.drew) HBX.out.drew)
              go_wp2_with fail
              go_region_held3 (fun W' => W'.cell? ⟨gs, i * 9, none⟩ = some (.int .i64 x.1.1) ∧ W'.cell? ⟨gs, i * 9 + 1, none⟩ = some (.string x.1.2.1) ∧ W'.cell? ⟨gs, i * 9 + 2, none⟩ = some (.string x.1.2.2) ∧ W'.cell? ⟨gs, i * 9 + 3, none⟩ = some (.int .i64 x.2.1.1) ∧ W'.cell? ⟨gs, i * 9 + 4, none⟩ = some (.string x.2.1.2.1) ∧ W'.cell? ⟨gs, i * 9 + 5, none⟩ = some (.string x.2.1.2.2) ∧ W'.cell? ⟨gs, i * 9 + 6, none⟩ = some (.int .i64 x.2.2.1) ∧ W'.cell? ⟨gs, i * 9 + 7, none⟩ = some (.string x.2.2.2.1) ∧ W'.cell? ⟨gs, i * 9 + 8, none⟩ = some (.string x.2.2.2.2) ∧ W'.cell? ⟨gt, i * 9, none⟩ = some (.int .i64 x.1.1) ∧ W'.cell? ⟨gt, i * 9 + 1, none⟩ = some (.string x.1.2.1) ∧ W'.cell? ⟨gt, i * 9 + 2, none⟩ = some (.string x.1.2.2) ∧ W'.cell? ⟨gt, i * 9 + 3, none⟩ = some (.int .i64 x.2.1.1) ∧ W'.cell? ⟨gt, i * 9 + 4, none⟩ = some (.string x.2.1.2.1) ∧ W'.cell? ⟨gt, i * 9 + 5, none⟩ = some (.string x.2.1.2.2) ∧ W'.cell? ⟨gt, i * 9 + 6, none⟩ = some (.int .i64 x.2.2.1) ∧ W'.cell? ⟨gt, i * 9 + 7, none⟩ = some (.string x.2.2.2.1) ∧ W'.cell? ⟨gt, i * 9 + 8, none⟩ = some (.string x.2.2.2.2) ∧ W'.cell? ⟨gu, i * 9, none⟩ = some (.int .i64 x.1.1) ∧ W'.cell? ⟨gu, i * 9 + 1, none⟩ = some (.string x.1.2.1) ∧ W'.cell? ⟨gu, i * 9 + 2, none⟩ = some (.string x.1.2.2) ∧ W'.cell? ⟨gu, i * 9 + 3, none⟩ = some (.int .i64 x.2.1.1) ∧ W'.cell? ⟨gu, i * 9 + 4, none⟩ = some (.string x.2.1.2.1) ∧ W'.cell? ⟨gu, i * 9 + 5, none⟩ = some (.string x.2.1.2.2) ∧ W'.cell? ⟨gu, i * 9 + 6, none⟩ = some (.int .i64 x.2.2.1) ∧ W'.cell? ⟨gu, i * 9 + 7, none⟩ = some (.string x.2.2.2.1) ∧ W'.cell? ⟨gu, i * 9 + 8, none⟩ = some (.string x.2.2.2.2) ∧ W'.cell? ⟨gs, (i - 1) * 9, none⟩ = some (.int .i64 y.1.1) ∧ W'.cell? ⟨gs, (i - 1) * 9 + 1, none⟩ = some (.string y.1.2.1) ∧ W'.cell? ⟨gs, (i - 1) * 9 + 2, none⟩ = some (.string y.1.2.2) ∧ W'.cell? ⟨gs, (i - 1) * 9 + 3, none⟩ = some (.int .i64 y.2.1.1) ∧ W'.cell? ⟨gs, (i - 1) * 9 + 4, none⟩ = some (.string y.2.1.2.1) ∧ W'.cell? ⟨gs, (i - 1) * 9 + 5, none⟩ = some (.string y.2.1.2.2) ∧ W'.cell? ⟨gs, (i - 1) * 9 + 6, none⟩ = some (.int .i64 y.2.2.1) ∧ W'.cell? ⟨gs, (i - 1) * 9 + 7, none⟩ = some (.string y.2.2.2.1) ∧ W'.cell? ⟨gs, (i - 1) * 9 + 8, none⟩ = some (.string y.2.2.2.2) ∧ Below w5.heap.size w5 W') ((first | assumption | exact START.out | exact STARTd.out | exact tri4_step (by assumption) (by assumption))) ((first | (go_at_call 15; refine (MC _).mono ?_; rintro e y0 ⟨rfl, hY0⟩) | (go_at_call 17; refine (MH _ (tri4_below (by assumption))).mono ?_; rintro e y0 ⟨rfl, hY0⟩)))
              all_goals
                rename_i hHeld
                have HBN := Lib.hid (tri4_below hHeld)
                clear hHeld START STARTd MC MH nn
                go_wp2_with fail
                go_roundg (k - (i + 1))
                case measure => omega
                case rel => exact ⟨i + 1, by omega, Nat.le_refl _, by go_num, HBN⟩
          · have d2 : decide ((i : Int) < (k : Int)) = false := by simpa using hlt
            have HB6 := Lib.hid (below_step HB5.out HBX.out)
            have HS6 := Lib.hid (HS5.out.below HBX.out)
            have HV6 := Lib.hid (HV5.out.below HBX.out)
            rename World => w6
            clear HBX ROWS ROWT ROWU HS5 HV5 HB5 hi hg2
            go_wp2_with fail
            go_loopg [11] n (fun gk s wr => ∃ i : Nat, i ≤ n ∧ n - i ≤ gk ∧ s = .int .i64 i ∧ Hid (Below w6.heap.size w6 wr))
            case atStart => exact ⟨0, Nat.zero_le _, by omega, rfl, Lib.hid (Below.refl _ _)⟩
            case round =>
              obtain ⟨j, hj, hg3, rfl, HBX⟩ := hrel
              by_cases hlt2 : j < n
              · obtain ⟨x, hx⟩ : ∃ x, ds[j]? = some x := ⟨_, List.getElem?_eq_getElem (by have := HN.out; omega)⟩
                have d3 : decide ((j : Int) < (n : Int)) = true := by simpa using hlt2
                have i0 : (0 : Int) ≤ (j : Int) := by omega
                have i1 : (j : Int) < (n : Int) := by omega
                obtain ⟨b, off, rfl, hr⟩ := HBR.out (by omega)
                have hmx : x ∈ L := (MEM.out x).2 (List.mem_of_getElem? hx)
                have MH : Hid (∀ W, Below w6.heap.size w6 W → Calls Tryd.prog 17 #[.slice so k sc, tripleV x.1 x.2.1 x.2.2] W (fun e w' => e = .returned (.bool true) ∧ Below W.heap.size W w')) := Lib.hid (fun W hW =>
                  (has_any _ L x W (HS6.out.below hW)).mono fun e w' ⟨r, he, hr, hB⟩ => ⟨by rw [he, hr.2 hmx], hB⟩)
                obtain ⟨c0, c1, c2, c3, c4, c5, c6, c7, c8⟩ := (hr.below (below_step HB6.out HBX.out)).nine hx
                clear hx hr hmx
                go_wp2_with fail
                refine (MH.out _ HBX.out).mono ?_
                rintro e w7 ⟨rfl, hB7⟩
                have HB7 := Lib.hid (below_step HBX.out hB7)
                clear hB7 c0 c1 c2 c3 c4 c5 c6 c7 c8
                go_wp2_with fail
                go_roundg (n - (j + 1))
                case measure => omega
                case rel => exact ⟨j + 1, by omega, Nat.le_refl _, by go_num, HB7⟩
              · have d3 : decide ((j : Int) < (n : Int)) = false := by simpa using hlt2
                have HB7 := Lib.hid (below_step HB6.out HBX.out)
                go_wp2_with fail
                refine (KN.out _ (cell_below HB7.out HM.out)).mono ?_
                rintro e w8 ⟨rfl, hB8⟩
                have HF := Lib.hid (below_step HB7.out hB8)
                clear hB8
                go_wp2_with fail
                go_ret
                exact ⟨rfl, HF.out⟩
end Go.Proofs.YtjpppfcbhkbbpaaDoor

