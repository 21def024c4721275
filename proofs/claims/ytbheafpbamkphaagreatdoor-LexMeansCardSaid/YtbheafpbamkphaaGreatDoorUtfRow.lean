/-
  A ROW OF BYTES as a string.
-/
import Derived.Test.YtbheafpbamkphaaGreatDoorUtfBytes
namespace Go.Proofs.YtbheafpbamkphaaGreatDoor
open Go.RowKit
open Utf

/-- A row with elements leads to a block, whose cells they are. -/
theorem owns_some {w : World} {B : Nat} {v : Value} {n : Nat} {xs : List Int} (h : w.ownsRow B 5 1 v n (xs.map (Value.int .u8))) (hn : 0 < n) :
    ∃ g cap, v = .slice (some ⟨g, 0, none⟩) n cap ∧ B ≤ g ∧ g < w.heap.size ∧ xs.length = n ∧ ∀ i, i < n → w.cell? ⟨g, 0 + i, none⟩ = some (.int .u8 (xs.getD i 0)) := by
  have h' := h
  obtain ⟨hl, ⟨_, h0⟩ | ⟨g, cap, cur, rfl, hg, hb, hle, _, hc, ht⟩⟩ := h
  · omega
  · have hxs : xs.length = n := by simpa using hl
    refine ⟨g, cap, rfl, hg, (Array.getElem?_eq_some_iff.1 hb).1, hxs, ?_⟩
    intro i hi
    have := h'.cellAt i (by omega)
    rw [Nat.zero_add, this, List.getElem?_map, List.getElem?_eq_getElem (by omega)]
    simp [hxs, hi]

/-- The row as a string. -/
theorem owns_string {w w' : World} {g n cap : Nat} {xs : List Int} (hx : xs.length = n) (hc : ∀ i, i < n → w.cell? ⟨g, 0 + i, none⟩ = some (.int .u8 (xs.getD i 0))) (hg : g < w.heap.size) (hB : Below w.heap.size w w') :
    (convert 51 9 (.slice (some ⟨g, 0, none⟩) n cap)).run Tryz.prog w' = .ok (.string (strOfNums xs)) w' :=
  run_convert_bytes_arg _ _ 5 Tryz.underlying51 Tryz.underlying5 _ _ _ _ xs hx (fun i hi => (hB.cell (p := ⟨g, 0 + i, none⟩) hg).trans (hc i hi)) _ Tryz.underlying9

/-- A row of bytes that is one's own: nil, or at the head of a block. -/
theorem owns_forms {w : World} {B : Nat} {v : Value} {n : Nat} {xs : List Int} (h : w.ownsRow B 5 1 v n (xs.map (Value.int .u8))) :
    (v = .slice none 0 0 ∧ xs = []) ∨ ∃ g cap, v = .slice (some ⟨g, 0, none⟩) n cap ∧ g < w.heap.size ∧ xs.length = n ∧ ∀ i, i < n → w.cell? ⟨g, 0 + i, none⟩ = some (.int .u8 (xs.getD i 0)) := by
  have h' := h
  obtain ⟨hl, ⟨rfl, rfl⟩ | ⟨g, cap, cur, rfl, hg, hb, hle, _, hc, ht⟩⟩ := h
  · left; exact ⟨rfl, by simpa using hl⟩
  · have hxs : xs.length = n := by simpa using hl
    right
    refine ⟨g, cap, rfl, (Array.getElem?_eq_some_iff.1 hb).1, hxs, ?_⟩
    intro i hi
    have := h'.cellAt i (by omega)
    rw [Nat.zero_add, this, List.getElem?_map, List.getElem?_eq_getElem (by omega)]
    simp [hxs, hi]

theorem nil_string (w : World) : (convert 51 9 (.slice none 0 0)).run Tryz.prog w = .ok (.string (strOfNums [])) w := by
  rw [run_convert_bytes_nil w 51 5 Tryz.underlying51 Tryz.underlying5 _ _ _ Tryz.underlying9]
  rfl

end Go.Proofs.YtbheafpbamkphaaGreatDoor
