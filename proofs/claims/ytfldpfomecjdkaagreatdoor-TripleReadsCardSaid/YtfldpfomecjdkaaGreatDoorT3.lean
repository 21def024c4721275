/-
  WHAT THE PROOF STANDS ON, a part of it: SortRow.
-/
import Derived.Test.YtfldpfomecjdkaaGreatDoorT2
import Derived.Test.YtfldpfomecjdkaaGreatDoorT1
import Derived.Laws.OwnMore
import Derived.Deep.Draws
/-
  ROWS OF TRIPLES IN MEMORY. CONTRACT OF has.
-/

namespace Go.Proofs.YtfldpfomecjdkaaGreatDoor
open Go.RowKit
open Utf Term
set_option linter.unusedVariables false
set_option linter.unusedSimpArgs false

/-- A triple's data. -/
abbrev TripD := TermD × TermD × TermD
def encT (x : TripD) : List Value := [.int .i64 x.1.1, .string x.1.2.1, .string x.1.2.2, .int .i64 x.2.1.1, .string x.2.1.2.1, .string x.2.1.2.2, .int .i64 x.2.2.1, .string x.2.2.2.1, .string x.2.2.2.2]
theorem encT_length (x : TripD) : (encT x).length = 9 := rfl
theorem encT_one (x : TripD) : ∀ u ∈ encT x, u.oneCell' = true := by
  intro u hu
  simp only [encT, List.mem_cons, List.not_mem_nil, or_false] at hu
  rcases hu with rfl | rfl | rfl | rfl | rfl | rfl | rfl | rfl | rfl <;> rfl
/-- The cells of some triples. -/
def cellsT (ds : List TripD) : List Value := ds.flatMap encT
theorem cellsT_nil : cellsT [] = [] := rfl
theorem cellsT_cons (x : TripD) (ds : List TripD) : cellsT (x :: ds) = encT x ++ cellsT ds := rfl
theorem cellsT_append (ds es : List TripD) : cellsT (ds ++ es) = cellsT ds ++ cellsT es := by unfold cellsT; rw [List.flatMap_append]
theorem cellsT_length : ∀ ds : List TripD, (cellsT ds).length = ds.length * 9
  | [] => rfl
  | x :: ds => by rw [cellsT_cons, List.length_append, cellsT_length ds, encT_length, List.length_cons]; omega
theorem cellsT_get : ∀ (ds : List TripD) (p c : Nat) (x : TripD), ds[p]? = some x → c < 9 → (cellsT ds)[p * 9 + c]? = (encT x)[c]?
  | [], _, _, _, h, _ => by simp at h
  | y :: ds, 0, c, x, h, hc => by
    rw [List.getElem?_cons_zero, Option.some.injEq] at h
    subst h
    rw [cellsT_cons, List.getElem?_append_left (by rw [encT_length]; omega)]
    simp
  | y :: ds, p + 1, c, x, h, hc => by
    rw [List.getElem?_cons_succ] at h
    rw [cellsT_cons, List.getElem?_append_right (by rw [encT_length]; omega), encT_length, show (p + 1) * 9 + c - 9 = p * 9 + c by omega]
    exact cellsT_get ds p c x h hc
theorem cellsT_one (ds : List TripD) : ∀ u ∈ cellsT ds, u.oneCell' = true := by
  intro u hu
  obtain ⟨x, _, hx⟩ := List.mem_flatMap.1 hu
  exact encT_one x u hx
theorem cellsT_take : ∀ (ds : List TripD) (n : Nat), (cellsT ds).take (n * 9) = cellsT (ds.take n)
  | [], n => by simp [cellsT]
  | x :: ds, 0 => by simp [cellsT]
  | x :: ds, n + 1 => by
    rw [List.take_succ_cons, cellsT_cons, cellsT_cons, List.take_append, encT_length, List.take_of_length_le (by rw [encT_length]; omega), show (n + 1) * 9 - 9 = n * 9 by omega, cellsT_take ds n]
theorem cellsT_drop : ∀ (ds : List TripD) (n : Nat), (cellsT ds).drop (n * 9) = cellsT (ds.drop n)
  | [], n => by simp [cellsT]
  | x :: ds, 0 => by simp [cellsT]
  | x :: ds, n + 1 => by
    rw [List.drop_succ_cons, cellsT_cons, List.drop_append, encT_length, List.drop_of_length_le (by rw [encT_length]; omega), show (n + 1) * 9 - 9 = n * 9 by omega, cellsT_drop ds n, List.nil_append]

/-- Cells in a row. -/
def RowC (W : World) (b off : Nat) (cs : List Value) : Prop := ∀ j u, cs[j]? = some u → W.cell? ⟨b, off + j, none⟩ = some u
theorem RowC.below {W W' : World} {b off : Nat} {cs : List Value} (h : RowC W b off cs) (k : Below W.heap.size W W') : RowC W' b off cs := fun j u e => cell_below k (h j u e)
theorem RowC.drewN {W : World} {b off : Nat} {cs : List Value} (h : RowC W b off cs) (q : Nat) : RowC (W.drewN q) b off cs := h
/-- A triple at a place. -/
structure Nine (W : World) (b o : Nat) (x : TripD) : Prop where
  c0 : W.cell? ⟨b, o, none⟩ = some (.int .i64 x.1.1)
  c1 : W.cell? ⟨b, o + 1, none⟩ = some (.string x.1.2.1)
  c2 : W.cell? ⟨b, o + 2, none⟩ = some (.string x.1.2.2)
  c3 : W.cell? ⟨b, o + 3, none⟩ = some (.int .i64 x.2.1.1)
  c4 : W.cell? ⟨b, o + 4, none⟩ = some (.string x.2.1.2.1)
  c5 : W.cell? ⟨b, o + 5, none⟩ = some (.string x.2.1.2.2)
  c6 : W.cell? ⟨b, o + 6, none⟩ = some (.int .i64 x.2.2.1)
  c7 : W.cell? ⟨b, o + 7, none⟩ = some (.string x.2.2.2.1)
  c8 : W.cell? ⟨b, o + 8, none⟩ = some (.string x.2.2.2.2)
theorem RowC.nine {W : World} {b off : Nat} {ds : List TripD} (h : RowC W b off (cellsT ds)) {p : Nat} {x : TripD} (hx : ds[p]? = some x) : Nine W b (off + p * 9) x := by
  have g : ∀ c u, c < 9 → (encT x)[c]? = some u → W.cell? ⟨b, off + p * 9 + c, none⟩ = some u := fun c u hc hu => by
    have := h (p * 9 + c) u ((cellsT_get ds p c x hx hc).trans hu)
    rwa [← Nat.add_assoc] at this
  exact ⟨g 0 _ (by omega) rfl, g 1 _ (by omega) rfl, g 2 _ (by omega) rfl, g 3 _ (by omega) rfl, g 4 _ (by omega) rfl, g 5 _ (by omega) rfl, g 6 _ (by omega) rfl, g 7 _ (by omega) rfl, g 8 _ (by omega) rfl⟩
theorem Nine.below {W W' : World} {b o : Nat} {x : TripD} (h : Nine W b o x) (k : Below W.heap.size W W') : Nine W' b o x :=
  ⟨cell_below k h.c0, cell_below k h.c1, cell_below k h.c2, cell_below k h.c3, cell_below k h.c4, cell_below k h.c5, cell_below k h.c6, cell_below k h.c7, cell_below k h.c8⟩

/-- A slice of triples. -/
def SliceT (W : World) (v : Value) (ds : List TripD) : Prop :=
  (v = .slice none 0 0 ∧ ds = []) ∨ ∃ b off cap, v = .slice (some ⟨b, off, none⟩) ds.length cap ∧ ds.length ≤ cap ∧ cap ≤ maxLen ∧ RowC W b off (cellsT ds)
theorem SliceT.below {W W' : World} {v : Value} {ds : List TripD} (h : SliceT W v ds) (k : Below W.heap.size W W') : SliceT W' v ds := by
  rcases h with h | ⟨b, off, cap, h1, h2, h3, h4⟩
  · exact .inl h
  · exact .inr ⟨b, off, cap, h1, h2, h3, h4.below k⟩
/-- '==' of two triples. -/
theorem trip_eql (x y : TripD) (w : World) : (binOp .eql 51 (tripleV x.1 x.2.1 x.2.2) (tripleV y.1 y.2.1 y.2.2)).run Tryz.prog w = .ok (.bool (decide (x = y))) w := by
  rw [triple_eql]
  congr 2
  simp [Prod.ext_iff]

end Go.Proofs.YtfldpfomecjdkaaGreatDoor
