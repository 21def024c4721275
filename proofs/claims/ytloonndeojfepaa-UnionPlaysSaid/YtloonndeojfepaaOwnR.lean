/-
  SLICES OF ELEMENTS OF ONE CELL: what they hold; those that a call makes: one element more, one written.
-/
import Derived.Test.YtloonndeojfepaaRowK
import Derived.Test.YtloonndeojfepaaOn
namespace Go.Proofs.Ytloonndeojfepaa
open Go.RowKit
set_option linter.unusedVariables false
set_option linter.unusedSimpArgs false

/-- A slice's cells: those of the list. -/
def ElR {α : Type} (enc : α → Value) (W : World) (ao : Option Addr) (xs : List α) : Prop := 0 < xs.length → ∃ g o, ao = some ⟨g, o, none⟩ ∧ ∀ j x, xs[j]? = some x → W.cell? ⟨g, o + j, none⟩ = some (enc x)
theorem ElR.below {α : Type} {enc : α → Value} {W U : World} {ao : Option Addr} {xs : List α} (h : ElR enc W ao xs) (hB : Below W.heap.size W U) : ElR enc U ao xs := fun hl => by
  obtain ⟨g, o, e, hc⟩ := h hl
  exact ⟨g, o, e, fun j k hj => (hB.cell (p := ⟨g, o + j, none⟩) (World.block_lt_of_cell? W _ (hc j k hj))).trans (hc j k hj)⟩
section
variable {α : Type} {enc : α → Value} {e : TypeId} {B : Nat} {W U : World} {ao : Option Addr} {cap : Nat} {l : List α}
/-- A slice of one's own: its block lies from B on. -/
def OwnR (enc : α → Value) (e : TypeId) (B : Nat) (W : World) (ao : Option Addr) (cap : Nat) (l : List α) : Prop := RowK W e 1 ao l.length cap (l.map enc) ∧ ∀ a, ao = some a → B ≤ a.block
theorem OwnR.below (h : OwnR enc e B W ao cap l) (k : Below W.heap.size W U) : OwnR enc e B U ao cap l := ⟨h.1.below k, h.2⟩
theorem OwnR.nil : OwnR enc e B W none 0 [] := ⟨⟨rfl, .inl ⟨rfl, rfl, rfl⟩⟩, fun a ha => by cases ha⟩
theorem OwnR.elR (h : OwnR enc e B W ao cap l) : ElR enc W ao l := fun hl => by
  obtain ⟨g, o, e1, hc, _⟩ := h.1.at_ hl
  exact ⟨g, o, e1, fun j x hx => hc j _ (by rw [List.getElem?_map, hx]; rfl)⟩
theorem OwnR.more (h : OwnR enc e B W ao cap l) (hB : B ≤ W.heap.size) (x : α) (v : Value) (hv : v = enc x) (g o' cap' : Nat) (w9 : World)
    (h1 : RowK w9 e 1 (some ⟨g, o', none⟩) (l.length + 1) cap' (l.map enc ++ [v])) (h2 : (W.alloc (.cells #[v] e)).grownBy w9 (some g)) (h3 : (ao = some ⟨g, o', none⟩ ∧ l.length < cap) ∨ (W.alloc (.cells #[v] e)).heap.size ≤ g) :
    Below B W w9 ∧ OwnR enc e B w9 (some ⟨g, o', none⟩) cap' (l ++ [x]) := by
  have hs : (W.alloc (.cells #[v] e)).heap.size = W.heap.size + 1 := World.size_alloc _ _
  have hgB : B ≤ g := by
    rcases h3 with ⟨h4, _⟩ | h4
    · exact h.2 _ h4
    · omega
  have hba := (Below.refl W.heap.size W).alloc (Nat.le_refl _) (.cells #[v] e)
  refine ⟨(hba.mono hB).trans ⟨h2.os, h2.tape, h2.output, h2.size, fun k hk => h2.block k (by omega) (fun e => by injection e with e; omega)⟩, ?_, fun a ha => by injection ha with ha; subst ha; exact hgB⟩
  rw [List.length_append, List.map_append]
  subst hv
  exact h1
theorem news_one (W : World) (v : Value) (e : TypeId) : ∀ j u, ([v] : List Value)[j]? = some u → (W.alloc (.cells #[v] e)).cell? ((⟨W.heap.size, 0, none⟩ : Addr).add j) = some u := fun j u hu => by
  rw [Addr.add_mid, Nat.zero_add]
  exact cell_in (heap_alloc_new W _) (by simpa using hu)
end
/-- An element of one's own slice, written. -/
theorem OwnR.put {α : Type} {enc : α → Value} {e : TypeId} {B : Nat} {W : World} {g o cap : Nat} {l : List α} (h : OwnR enc e B W (some ⟨g, o, none⟩) cap l) (j : Nat) (x : α) (v : Value) (hv : v = enc x) : OwnR enc e B (W.setCell ⟨g, o + j, none⟩ v) (some ⟨g, o, none⟩) cap (l.set j x) ∧ (B ≤ W.heap.size → Below B W (W.setCell ⟨g, o + j, none⟩ v)) := by
  have h1 := h.1.set rfl j v
  refine ⟨⟨?_, h.2⟩, fun hB => ?_⟩
  · rw [List.length_set, List.map_set, ← hv]
    exact h1
  · have hg := h.2 _ rfl
    exact (Turned.set (S := fun k => k = g) (w := W) (a := ⟨g, o + j, none⟩) rfl v).below hB (fun k hk => by
      subst hk
      exact hg)
end Go.Proofs.Ytloonndeojfepaa
