/-
  WHAT THE PROOF STANDS ON, a part of it: RuRow.
-/
import Derived.Test.YtlkiigoblkfkpaaGreatDoorC22
import Derived.Test.YtlkiigoblkfkpaaGreatDoorC9
import Derived.Below
import Derived.Deep.MidRow
/-
  ROWS OF PARTS AND OF RULES IN MEMORY.
-/

namespace Go.Proofs.YtlkiigoblkfkpaaGreatDoor
open Go.RowKit
open Utf Term
set_option linter.unusedVariables false
set_option linter.unusedSimpArgs false
set_option maxRecDepth 100000

abbrev slotC (s : SlotD) : Array Value := #[.string s.1, .int .i64 s.2.1, .string s.2.2.1, .string s.2.2.2]
abbrev patC (p : PatD) : Array Value := #[.string p.1.1, .int .i64 p.1.2.1, .string p.1.2.2.1, .string p.1.2.2.2, .string p.2.1.1, .int .i64 p.2.1.2.1, .string p.2.1.2.2.1, .string p.2.1.2.2.2, .string p.2.2.1, .int .i64 p.2.2.2.1, .string p.2.2.2.2.1, .string p.2.2.2.2.2]
abbrev litC (l : LitD) : Array Value := #[.int .i64 l.1, .string l.2.1.1.1, .int .i64 l.2.1.1.2.1, .string l.2.1.1.2.2.1, .string l.2.1.1.2.2.2, .string l.2.1.2.1.1, .int .i64 l.2.1.2.1.2.1, .string l.2.1.2.1.2.2.1, .string l.2.1.2.1.2.2.2, .string l.2.1.2.2.1, .int .i64 l.2.1.2.2.2.1, .string l.2.1.2.2.2.2.1, .string l.2.1.2.2.2.2.2, .string l.2.2.1.1, .int .i64 l.2.2.1.2.1, .string l.2.2.1.2.2.1, .string l.2.2.1.2.2.2, .string l.2.2.2.1, .int .i64 l.2.2.2.2.1, .string l.2.2.2.2.2.1, .string l.2.2.2.2.2.2]
abbrev ruleC (p : PatD) (v : Value) : Array Value := #[.string p.1.1, .int .i64 p.1.2.1, .string p.1.2.2.1, .string p.1.2.2.2, .string p.2.1.1, .int .i64 p.2.1.2.1, .string p.2.1.2.2.1, .string p.2.1.2.2.2, .string p.2.2.1, .int .i64 p.2.2.2.1, .string p.2.2.2.2.1, .string p.2.2.2.2.2, v]

/-- An element of a row. -/
def LitAt (W : World) (g o : Nat) (l : LitD) : Prop := W.cell? ⟨g, o, none⟩ = some (.int .i64 l.1) ∧ W.cell? ⟨g, o + 1, none⟩ = some (.string l.2.1.1.1) ∧ W.cell? ⟨g, o + 2, none⟩ = some (.int .i64 l.2.1.1.2.1) ∧ W.cell? ⟨g, o + 3, none⟩ = some (.string l.2.1.1.2.2.1) ∧ W.cell? ⟨g, o + 4, none⟩ = some (.string l.2.1.1.2.2.2) ∧ W.cell? ⟨g, o + 5, none⟩ = some (.string l.2.1.2.1.1) ∧ W.cell? ⟨g, o + 6, none⟩ = some (.int .i64 l.2.1.2.1.2.1) ∧ W.cell? ⟨g, o + 7, none⟩ = some (.string l.2.1.2.1.2.2.1) ∧ W.cell? ⟨g, o + 8, none⟩ = some (.string l.2.1.2.1.2.2.2) ∧ W.cell? ⟨g, o + 9, none⟩ = some (.string l.2.1.2.2.1) ∧ W.cell? ⟨g, o + 10, none⟩ = some (.int .i64 l.2.1.2.2.2.1) ∧ W.cell? ⟨g, o + 11, none⟩ = some (.string l.2.1.2.2.2.2.1) ∧ W.cell? ⟨g, o + 12, none⟩ = some (.string l.2.1.2.2.2.2.2) ∧ W.cell? ⟨g, o + 13, none⟩ = some (.string l.2.2.1.1) ∧ W.cell? ⟨g, o + 14, none⟩ = some (.int .i64 l.2.2.1.2.1) ∧ W.cell? ⟨g, o + 15, none⟩ = some (.string l.2.2.1.2.2.1) ∧ W.cell? ⟨g, o + 16, none⟩ = some (.string l.2.2.1.2.2.2) ∧ W.cell? ⟨g, o + 17, none⟩ = some (.string l.2.2.2.1) ∧ W.cell? ⟨g, o + 18, none⟩ = some (.int .i64 l.2.2.2.2.1) ∧ W.cell? ⟨g, o + 19, none⟩ = some (.string l.2.2.2.2.2.1) ∧ W.cell? ⟨g, o + 20, none⟩ = some (.string l.2.2.2.2.2.2)
def PatAt (W : World) (g : Nat) (p : PatD) : Prop := W.cell? ⟨g, 0, none⟩ = some (.string p.1.1) ∧ W.cell? ⟨g, 1, none⟩ = some (.int .i64 p.1.2.1) ∧ W.cell? ⟨g, 2, none⟩ = some (.string p.1.2.2.1) ∧ W.cell? ⟨g, 3, none⟩ = some (.string p.1.2.2.2) ∧ W.cell? ⟨g, 4, none⟩ = some (.string p.2.1.1) ∧ W.cell? ⟨g, 5, none⟩ = some (.int .i64 p.2.1.2.1) ∧ W.cell? ⟨g, 6, none⟩ = some (.string p.2.1.2.2.1) ∧ W.cell? ⟨g, 7, none⟩ = some (.string p.2.1.2.2.2) ∧ W.cell? ⟨g, 8, none⟩ = some (.string p.2.2.1) ∧ W.cell? ⟨g, 9, none⟩ = some (.int .i64 p.2.2.2.1) ∧ W.cell? ⟨g, 10, none⟩ = some (.string p.2.2.2.2.1) ∧ W.cell? ⟨g, 11, none⟩ = some (.string p.2.2.2.2.2)
def RuleAt (W : World) (g o : Nat) (p : PatD) (v : Value) : Prop := W.cell? ⟨g, o, none⟩ = some (.string p.1.1) ∧ W.cell? ⟨g, o + 1, none⟩ = some (.int .i64 p.1.2.1) ∧ W.cell? ⟨g, o + 2, none⟩ = some (.string p.1.2.2.1) ∧ W.cell? ⟨g, o + 3, none⟩ = some (.string p.1.2.2.2) ∧ W.cell? ⟨g, o + 4, none⟩ = some (.string p.2.1.1) ∧ W.cell? ⟨g, o + 5, none⟩ = some (.int .i64 p.2.1.2.1) ∧ W.cell? ⟨g, o + 6, none⟩ = some (.string p.2.1.2.2.1) ∧ W.cell? ⟨g, o + 7, none⟩ = some (.string p.2.1.2.2.2) ∧ W.cell? ⟨g, o + 8, none⟩ = some (.string p.2.2.1) ∧ W.cell? ⟨g, o + 9, none⟩ = some (.int .i64 p.2.2.2.1) ∧ W.cell? ⟨g, o + 10, none⟩ = some (.string p.2.2.2.2.1) ∧ W.cell? ⟨g, o + 11, none⟩ = some (.string p.2.2.2.2.2) ∧ W.cell? ⟨g, o + 12, none⟩ = some v

def flatL (ls : List LitD) : List Value := ls.flatMap fun l => (litC l).toList
theorem flatL_cons (l : LitD) (ls : List LitD) : flatL (l :: ls) = (litC l).toList ++ flatL ls := by simp [flatL]
theorem flatL_get : ∀ (L : List LitD) (i c : Nat) (x : LitD), L[i]? = some x → c < 21 → (flatL L)[i * 21 + c]? = (litC x).toList[c]?
  | [], i, c, x, h, _ => by simp at h
  | y :: L, 0, c, x, h, hc => by
    simp only [List.getElem?_cons_zero, Option.some.injEq] at h
    subst h
    rw [flatL_cons, Nat.zero_mul, Nat.zero_add, List.getElem?_append_left (by show c < 21; exact hc)]
  | y :: L, i + 1, c, x, h, hc => by
    have hl : (litC y).toList.length = 21 := rfl
    rw [flatL_cons, List.getElem?_append_right (by rw [hl]; omega), hl, show (i + 1) * 21 + c - 21 = i * 21 + c by omega]
    exact flatL_get L i c x h hc
def RowL (W : World) (g o : Nat) (ls : List LitD) : Prop := ∀ (j : Nat) (u : Value), (flatL ls)[j]? = some u → W.cell? ⟨g, o + j, none⟩ = some u
theorem RowL.below {W W' : World} {g o : Nat} {ls : List LitD} (h : RowL W g o ls) (k : Below W.heap.size W W') : RowL W' g o ls := fun j u e =>
  (k.cell (World.block_lt_of_cell? _ _ (h j u e))).trans (h j u e)
theorem RowL.at_ {W : World} {g o i : Nat} {ls : List LitD} {l : LitD} (h : RowL W g o ls) (hx : ls[i]? = some l) : LitAt W g (o + i * 21) l := by
  have key : ∀ c, c < 21 → ∀ u, (litC l).toList[c]? = some u → W.cell? ⟨g, o + i * 21 + c, none⟩ = some u := fun c hc u hu => by
    rw [Nat.add_assoc]
    exact h (i * 21 + c) u (by rw [flatL_get ls i c l hx hc]; exact hu)
  exact ⟨key 0 (by omega) _ rfl, key 1 (by omega) _ rfl, key 2 (by omega) _ rfl, key 3 (by omega) _ rfl, key 4 (by omega) _ rfl, key 5 (by omega) _ rfl, key 6 (by omega) _ rfl, key 7 (by omega) _ rfl, key 8 (by omega) _ rfl, key 9 (by omega) _ rfl, key 10 (by omega) _ rfl, key 11 (by omega) _ rfl, key 12 (by omega) _ rfl, key 13 (by omega) _ rfl, key 14 (by omega) _ rfl, key 15 (by omega) _ rfl, key 16 (by omega) _ rfl, key 17 (by omega) _ rfl, key 18 (by omega) _ rfl, key 19 (by omega) _ rfl, key 20 (by omega) _ rfl⟩
theorem RowL.range {W : World} {g o i : Nat} {ls : List LitD} {l : LitD} (h : RowL W g o ls) (hx : ls[i]? = some l) : W.rangeAt g (o + i * 21) (litC l).toList := fun c u hu => by
  have hc : c < 21 := (List.getElem?_eq_some_iff.1 hu).1
  rw [Nat.add_assoc]
  exact h (i * 21 + c) u (by rw [flatL_get ls i c l hx hc]; exact hu)
theorem litC_one (l : LitD) : (litC l).toList.toArray.all (·.oneCell') = true := by simp [Value.oneCell']
/-- A part stored into a new block. -/
structure Stored (w W : World) (C : List Value) : Prop where
  row : W.rangeAt w.heap.size 0 C
  low : Below w.heap.size w W
  size : W.heap.size = w.heap.size + 1
theorem stored_lit (w : World) (Z : Array Value) (hz : Z.size = 21) (C : List Value) (hC : C.length = 21) (t : TypeId) :
    (w.alloc (.cells Z t)).there w.heap.size 0 21 ∧ Stored w ((w.alloc (.cells Z t)).setCells w.heap.size 0 C) C := by
  have hth : (w.alloc (.cells Z t)).there w.heap.size 0 21 := fun j hj => by
    rw [Nat.zero_add, World.cell?_alloc_at _ _ _ _ rfl]
    refine ⟨by show (Z[j]?).isSome = true; rw [Array.getElem?_eq_getElem (by omega)]; rfl, ?_⟩
    have : (w.alloc (.cells Z t)).heap[w.heap.size]? = some (.cells Z t (0, 0)) := heap_alloc_new w _
    unfold World.frozen?
    simp only
    rw [this]
    simp
  refine ⟨hth, World.rangeAt_setCells_same _ _ _ _ (by rw [hC]; exact hth), ?_, ?_⟩
  · have : ∀ (cs : List Value) (o : Nat) (U : World), Below w.heap.size w U → Below w.heap.size w (U.setCells w.heap.size o cs) := by
      intro cs
      induction cs with
      | nil => intro o U h; exact h
      | cons c cs ih => intro o U h; exact ih (o + 1) _ (h.setCell (Nat.le_refl _) _)
    exact this C 0 _ ((Below.refl _ _).alloc (Nat.le_refl _) _)
  · have : ∀ (cs : List Value) (o : Nat) (U : World), (U.setCells w.heap.size o cs).heap.size = U.heap.size := by
      intro cs
      induction cs with
      | nil => intro o U; rfl
      | cons c cs ih => intro o U; show ((U.setCell _ _).setCells _ _ _).heap.size = _; rw [ih]; simp
    rw [this]; simp
/-- A slice of parts. -/
def BodyS (W : World) (v : Value) (ls : List LitD) : Prop :=
  ((∃ p cap, v = .slice p 0 cap) ∧ ls = []) ∨ ∃ g o cap, v = .slice (some ⟨g, o, none⟩) ls.length cap ∧ ls.length ≤ cap ∧ cap ≤ maxLen ∧ RowL W g o ls
theorem BodyS.below {W W' : World} {v : Value} {ls : List LitD} (h : BodyS W v ls) (k : Below W.heap.size W W') : BodyS W' v ls := by
  rcases h with h | ⟨g, o, cap, h1, h2, h3, h4⟩
  · exact .inl h
  · exact .inr ⟨g, o, cap, h1, h2, h3, h4.below k⟩
theorem BodyS.form {W : World} {v : Value} {ls : List LitD} (h : BodyS W v ls) : ∃ p cap, v = .slice p ls.length cap ∧ ls.length ≤ cap ∧ (0 < ls.length → ∃ g o, p = some ⟨g, o, none⟩ ∧ RowL W g o ls) := by
  rcases h with ⟨⟨p, cap, rfl⟩, rfl⟩ | ⟨g, o, cap, rfl, h2, h3, h4⟩
  · exact ⟨p, cap, rfl, Nat.zero_le _, fun h => absurd h (by simp)⟩
  · exact ⟨_, cap, rfl, h2, fun _ => ⟨g, o, rfl, h4⟩⟩
/-- A row of rules: each one's head, and a slice of its parts. -/
def RowRu (W : World) (g o : Nat) (rs : List RuleD) : Prop := ∀ (i : Nat) (r : RuleD), rs[i]? = some r → ∃ v, RuleAt W g (o + i * 13) r.1 v ∧ BodyS W v r.2
theorem RuleAt.below {W W' : World} {g o : Nat} {p : PatD} {v : Value} (h : RuleAt W g o p v) (k : Below W.heap.size W W') : RuleAt W' g o p v := by
  have key : ∀ c u, W.cell? ⟨g, c, none⟩ = some u → W'.cell? ⟨g, c, none⟩ = some u := fun c u e => (k.cell (World.block_lt_of_cell? _ _ e)).trans e
  obtain ⟨h0, h1, h2, h3, h4, h5, h6, h7, h8, h9, h10, h11, h12⟩ := h
  exact ⟨key _ _ h0, key _ _ h1, key _ _ h2, key _ _ h3, key _ _ h4, key _ _ h5, key _ _ h6, key _ _ h7, key _ _ h8, key _ _ h9, key _ _ h10, key _ _ h11, key _ _ h12⟩
theorem LitAt.below {W W' : World} {g o : Nat} {l : LitD} (h : LitAt W g o l) (k : Below W.heap.size W W') : LitAt W' g o l := by
  have key : ∀ c u, W.cell? ⟨g, c, none⟩ = some u → W'.cell? ⟨g, c, none⟩ = some u := fun c u e => (k.cell (World.block_lt_of_cell? _ _ e)).trans e
  obtain ⟨h0, h1, h2, h3, h4, h5, h6, h7, h8, h9, h10, h11, h12, h13, h14, h15, h16, h17, h18, h19, h20⟩ := h
  exact ⟨key _ _ h0, key _ _ h1, key _ _ h2, key _ _ h3, key _ _ h4, key _ _ h5, key _ _ h6, key _ _ h7, key _ _ h8, key _ _ h9, key _ _ h10, key _ _ h11, key _ _ h12, key _ _ h13, key _ _ h14, key _ _ h15, key _ _ h16, key _ _ h17, key _ _ h18, key _ _ h19, key _ _ h20⟩
theorem PatAt.below {W W' : World} {g : Nat} {p : PatD} (h : PatAt W g p) (k : Below W.heap.size W W') : PatAt W' g p := by
  have key : ∀ c u, W.cell? ⟨g, c, none⟩ = some u → W'.cell? ⟨g, c, none⟩ = some u := fun c u e => (k.cell (World.block_lt_of_cell? _ _ e)).trans e
  obtain ⟨h0, h1, h2, h3, h4, h5, h6, h7, h8, h9, h10, h11⟩ := h
  exact ⟨key _ _ h0, key _ _ h1, key _ _ h2, key _ _ h3, key _ _ h4, key _ _ h5, key _ _ h6, key _ _ h7, key _ _ h8, key _ _ h9, key _ _ h10, key _ _ h11⟩
theorem RowRu.below {W W' : World} {g o : Nat} {rs : List RuleD} (h : RowRu W g o rs) (k : Below W.heap.size W W') : RowRu W' g o rs := fun i r e => by
  obtain ⟨v, h1, h2⟩ := h i r e
  exact ⟨v, h1.below k, h2.below k⟩
/-- A slice of rules. -/
def SliceRu (W : World) (v : Value) (rs : List RuleD) : Prop :=
  (v = .slice none 0 0 ∧ rs = []) ∨ ∃ g o cap, v = .slice (some ⟨g, o, none⟩) rs.length cap ∧ rs.length ≤ cap ∧ cap ≤ maxLen ∧ RowRu W g o rs
theorem SliceRu.below {W W' : World} {v : Value} {rs : List RuleD} (h : SliceRu W v rs) (k : Below W.heap.size W W') : SliceRu W' v rs := by
  rcases h with h | ⟨g, o, cap, h1, h2, h3, h4⟩
  · exact .inl h
  · exact .inr ⟨g, o, cap, h1, h2, h3, h4.below k⟩
end Go.Proofs.YtlkiigoblkfkpaaGreatDoor

