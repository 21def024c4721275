/-
  WHAT THE PROOF STANDS ON, a part of it: SliceArg.
-/
import Derived.Test.YtfldpfomecjdkaaGreatDoorT5
import Derived.Test.YtfldpfomecjdkaaGreatDoorT3
import Derived.Deep.Slices
import Derived.ChangeOld
/-
  AN ARGUMENT THAT IS A SLICE OF TRIPLES: opened.
-/

namespace Go.Proofs.YtfldpfomecjdkaaGreatDoor
open Go.ChangeShapes Go.WideShapes Go.ChangeAt Go.RowKit Go.Deep
set_option linter.unusedVariables false
set_option maxRecDepth 100000

theorem list_of {α : Type} {p : Nat → α → Prop} : ∀ n : Nat, (∀ i, i < n → ∃ x, p i x) → ∃ l : List α, l.length = n ∧ ∀ i x, l[i]? = some x → p i x
  | 0, _ => ⟨[], rfl, fun i x h => by simp at h⟩
  | n + 1, h => by
    obtain ⟨l, hl, hp⟩ := list_of n (fun i hi => h i (by omega))
    obtain ⟨x, hx⟩ := h n (by omega)
    refine ⟨l ++ [x], by simp [hl], fun i y hy => ?_⟩
    by_cases hi : i < n
    · rw [List.getElem?_append_left (by omega)] at hy
      exact hp i y hy
    · have hi' : i < (l ++ [x]).length := (List.getElem?_eq_some_iff.1 hy).1
      have : i = n := by simp [hl] at hi'; omega
      subst this
      rw [List.getElem?_append_right (by omega), hl, Nat.sub_self] at hy
      simp at hy
      exact hy ▸ hx

theorem open_triples_wf {H : Type} {enc : TypeId × Value → H} {w : World} {base b0 : Nat} {spare : Nat → Bool} {held : Bool} {r : Reach} {v : Value} {d : DataW H} {ps : List MemPlace}
    (hval : Value.okWide Tryz.prog w r b0 45 v) (hd : DataW.Trod enc Tryz.prog w base spare held 45 v d ps) : ∃ ds : List TripD, SliceT w v ds ∧ ∀ t ∈ ds, wfTerm t.1 ∧ wfTerm t.2.1 ∧ wfTerm t.2.2 := by
  obtain ⟨ao, len, cap, rfl⟩ := okWide_slice Tryz.underlying45 hval
  obtain ⟨fuel, hf⟩ := hd
  rcases open_slice Tryz.underlying45 hf with ⟨hcs, _⟩ | ⟨a, len', cap', m, n, D, Pl, hcs, hb, hl, hm, hmm, hx, hi⟩
  · simp [Value.cells] at hcs
    obtain ⟨rfl, rfl, rfl⟩ := hcs
    exact ⟨[], .inl ⟨rfl, rfl⟩, fun t h => by cases h⟩
  · simp [Value.cells] at hcs
    obtain ⟨rfl, rfl, rfl⟩ := hcs
    have hspot : a.spot = none := by
      simp only [Value.okWide, Tryz.underlying45, Cell.okWide, Cell.ok] at hval
      exact hval.2.2.2.1
    obtain ⟨b, off, sp⟩ := a
    dsimp only at hspot
    subst hspot
    have hlm : len ≤ m := by rw [hmm]; split <;> omega
    have one : ∀ i, i < len → ∃ x : TripD, (wfTerm x.1 ∧ wfTerm x.2.1 ∧ wfTerm x.2.2) ∧ ∀ c u, (encT x)[c]? = some u → w.cell? ⟨b, off + (i * 9 + c), none⟩ = some u := fun i hil => by
      obtain ⟨cs', hc, ht⟩ := hi i (by omega)
      rw [cells_triple] at hc
      obtain ⟨x0, x1, x2, rfl, _, g0, g1, g2⟩ := trod_triple ht
      obtain ⟨_, hcl, hat⟩ := World.cells?_some hc
      refine ⟨(x0, x1, x2), ⟨g0, g1, g2⟩, fun c u hu => ?_⟩
      have hc9 : c < 9 := (List.getElem?_eq_some_iff.1 hu).1
      have h1 := hat c hc9
      have e : ((⟨b, off, none⟩ : Addr).add (i * 9)).add c = ⟨b, off + (i * 9 + c), none⟩ := by
        unfold Addr.add; split <;> (split <;> simp_all [Nat.add_assoc])
      rw [e] at h1
      rw [h1]
      exact hu
    obtain ⟨ds, hdl, hdp⟩ := list_of len one
    refine ⟨ds, .inr ⟨b, off, cap, by rw [hdl], by omega, hm, fun j u hu => ?_⟩, fun t ht => ?_⟩
    rotate_left
    · obtain ⟨p, hp⟩ := List.getElem?_of_mem ht
      exact (hdp p t hp).1
    have hj : j < ds.length * 9 := by have := (List.getElem?_eq_some_iff.1 hu).1; rwa [cellsT_length] at this
    obtain ⟨p, c, rfl, hc⟩ : ∃ p c, j = p * 9 + c ∧ c < 9 := ⟨j / 9, j % 9, by omega, by omega⟩
    obtain ⟨x, hxp⟩ : ∃ x, ds[p]? = some x := ⟨_, List.getElem?_eq_getElem (by omega)⟩
    rw [cellsT_get ds p c x hxp hc] at hu
    exact (hdp p x hxp).2 c u hu
theorem open_triples {H : Type} {enc : TypeId × Value → H} {w : World} {base b0 : Nat} {spare : Nat → Bool} {held : Bool} {r : Reach} {v : Value} {d : DataW H} {ps : List MemPlace}
    (hval : Value.okWide Tryz.prog w r b0 45 v) (hd : DataW.Trod enc Tryz.prog w base spare held 45 v d ps) : ∃ ds, SliceT w v ds := by
  obtain ⟨ds, h, _⟩ := open_triples_wf hval hd
  exact ⟨ds, h⟩
theorem laidOut : laidOutB Tryz.prog = true := by kernel_rfl
end Go.Proofs.YtfldpfomecjdkaaGreatDoor
