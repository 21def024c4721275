/-
  WHAT THE PROOF STANDS ON, a part of it: SliceK.
-/
import Derived.Test.YtjbfjglomonanaaChecked
import Derived.RowKit3
import Derived.Below
import Derived.ProofKit
import Derived.OpenShut
import Derived.ShutString
import Derived.ChangeOld
import Derived.Deep.Slices
/-
  SLICES OF ELEMENTS OF k CELLS, AS ARGUMENTS: opened to their cells.
-/

namespace Go.Proofs.Ytjbfjglomonanaa
open Go.ChangeShapes Go.WideShapes Go.ChangeAt Go.RowKit Go.Deep
set_option linter.unusedVariables false
set_option maxRecDepth 100000

theorem flat_len {α : Type} (c : α → List Value) (k : Nat) (hc : ∀ x, (c x).length = k) : ∀ l : List α, (l.flatMap c).length = l.length * k
  | [] => by simp
  | x :: l => by rw [List.flatMap_cons, List.length_append, flat_len c k hc l, hc x, List.length_cons, Nat.succ_mul, Nat.add_comm]
theorem flat_get {α : Type} (c : α → List Value) (k : Nat) (hc : ∀ x, (c x).length = k) : ∀ (l : List α) (i j : Nat) (x : α), l[i]? = some x → j < k → (l.flatMap c)[i * k + j]? = (c x)[j]?
  | [], i, j, x, h, _ => by simp at h
  | y :: l, 0, j, x, h, hj => by
    simp only [List.getElem?_cons_zero, Option.some.injEq] at h
    subst h
    rw [List.flatMap_cons, Nat.zero_mul, Nat.zero_add, List.getElem?_append_left (by rw [hc]; exact hj)]
  | y :: l, i + 1, j, x, h, hj => by
    rw [List.getElem?_cons_succ] at h
    rw [List.flatMap_cons, List.getElem?_append_right (by rw [hc, Nat.succ_mul]; omega), hc, ← flat_get c k hc l i j x h hj]
    congr 1
    rw [Nat.succ_mul]
    omega
theorem list_of8 {α : Type} {p : Nat → α → Prop} : ∀ n : Nat, (∀ i, i < n → ∃ x, p i x) → ∃ l : List α, l.length = n ∧ ∀ i x, l[i]? = some x → p i x
  | 0, _ => ⟨[], rfl, fun i x h => by simp at h⟩
  | n + 1, h => by
    obtain ⟨l, hl, hp⟩ := list_of8 n (fun i hi => h i (by omega))
    obtain ⟨x, hx⟩ := h n (by omega)
    refine ⟨l ++ [x], by simp [hl], fun i y hy => ?_⟩
    by_cases hi : i < n
    · rw [List.getElem?_append_left (by omega)] at hy
      exact hp i y hy
    · have hi' : i < (l ++ [x]).length := (List.getElem?_eq_some_iff.1 hy).1
      have : i = n := by simp [hl] at hi'; omega
      subst this
      rw [List.getElem?_append_right (by omega), hl, Nat.sub_self] at hy
      simp at hy
      exact hy ▸ hx
/-- A slice argument of elements of k cells. -/
def SliceK {α : Type} (c : α → List Value) (w : World) (v : Value) (xs : List α) : Prop :=
  (v = .slice none 0 0 ∧ xs = []) ∨ ∃ b off cap, v = .slice (some ⟨b, off, none⟩) xs.length cap ∧ xs.length ≤ cap ∧ cap ≤ maxLen ∧ ∀ j u, (xs.flatMap c)[j]? = some u → w.cell? ⟨b, off + j, none⟩ = some u
theorem open_sliceK {H : Type} {enc : TypeId × Value → H} {w : World} {base b0 : Nat} {spare : Nat → Bool} {held : Bool} {r : Reach} {v : Value} {d : DataW H} {ps : List MemPlace} {T E : TypeId} (hu : Try.prog.underlying T = some (.slice E)) {k : Nat} (hk0 : 0 < k) (hk : Try.prog.cellsOf E = k)
    {α : Type} (c : α → List Value) (hcl : ∀ x, (c x).length = k) (ok : α → Prop) (hE : ∀ (fuel : Nat) (cs : List Value) (x : DataW H × List MemPlace), DataW.trod enc Try.prog w base spare held fuel E cs = some x → ∃ a, cs = c a ∧ ok a)
    (hval : Value.okWide Try.prog w r b0 T v) (hd : DataW.Trod enc Try.prog w base spare held T v d ps) : ∃ xs : List α, SliceK c w v xs ∧ ∀ x ∈ xs, ok x := by
  obtain ⟨ao, len, cap, rfl⟩ := okWide_slice hu hval
  obtain ⟨fuel, hf⟩ := hd
  rcases open_slice hu hf with ⟨hcs, _⟩ | ⟨a, len', cap', m, n, D, Pl, hcs, hb, hl, hm, hmm, hx, hi⟩
  · simp [Value.cells] at hcs
    obtain ⟨rfl, rfl, rfl⟩ := hcs
    exact ⟨[], .inl ⟨rfl, rfl⟩, fun t h => by cases h⟩
  · simp [Value.cells] at hcs
    obtain ⟨rfl, rfl, rfl⟩ := hcs
    have hspot : a.spot = none := by
      simp only [Value.okWide, hu, Cell.okWide, Cell.ok] at hval
      exact hval.2.2.2.1
    obtain ⟨b, off, sp⟩ := a
    dsimp only at hspot
    subst hspot
    have hlm : len ≤ m := by rw [hmm]; split <;> omega
    have one : ∀ i, i < len → ∃ x : α, ok x ∧ ∀ j u, (c x)[j]? = some u → w.cell? ⟨b, off + (i * k + j), none⟩ = some u := fun i hil => by
      obtain ⟨cs', hc, ht⟩ := hi i (by omega)
      rw [hk] at hc
      obtain ⟨x, rfl, hx⟩ := hE _ _ _ ht
      obtain ⟨_, hcl2, hat⟩ := World.cells?_some hc
      refine ⟨x, hx, fun j u hu => ?_⟩
      have hc9 : j < k := by have := (List.getElem?_eq_some_iff.1 hu).1; rwa [hcl] at this
      have h1 := hat j hc9
      have e : ((⟨b, off, none⟩ : Addr).add (i * k)).add j = ⟨b, off + (i * k + j), none⟩ := by
        unfold Addr.add; split <;> (split <;> simp_all [Nat.add_assoc])
      rw [e] at h1
      rw [h1]
      exact hu
    obtain ⟨xs, hdl, hdp⟩ := list_of8 len one
    refine ⟨xs, .inr ⟨b, off, cap, by rw [hdl], by omega, hm, fun j u hu => ?_⟩, fun t ht => ?_⟩
    rotate_left
    · obtain ⟨p, hp⟩ := List.getElem?_of_mem ht
      exact (hdp p t hp).1
    have hj : j < xs.length * k := by have := (List.getElem?_eq_some_iff.1 hu).1; rwa [flat_len c k hcl] at this
    obtain ⟨p, q, rfl, hq⟩ : ∃ p q, j = p * k + q ∧ q < k := ⟨j / k, j % k, by rw [Nat.mul_comm]; exact (Nat.div_add_mod j k).symm, Nat.mod_lt _ hk0⟩
    have hpl : p < xs.length := by
      by_cases h : p < xs.length
      · exact h
      · have := Nat.mul_le_mul_right k (Nat.le_of_not_lt h)
        omega
    obtain ⟨x, hxp⟩ : ∃ x, xs[p]? = some x := ⟨_, List.getElem?_eq_getElem hpl⟩
    rw [flat_get c k hcl xs p q x hxp hq] at hu
    exact (hdp p x hxp).2 q u hu
end Go.Proofs.Ytjbfjglomonanaa

