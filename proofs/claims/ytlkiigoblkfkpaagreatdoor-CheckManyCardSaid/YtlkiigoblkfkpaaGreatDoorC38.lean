/-
  WHAT THE PROOF STANDS ON, a part of it: CkManyI.
-/
import Derived.Test.YtlkiigoblkfkpaaGreatDoorC36
import Derived.Test.YtlkiigoblkfkpaaGreatDoorC37
import Derived.Test.YtlkiigoblkfkpaaGreatDoorC32
/-
  CheckMany's LIST, while it grows.
-/

namespace Go.Proofs.YtlkiigoblkfkpaaGreatDoor
open Go.RowKit
open Utf Term
set_option linter.unusedVariables false
set_option linter.unusedSimpArgs false

structure MkI (W : World) (k : Nat) (L : List RvD) (ao : Option Addr) (cap : Nat) (wr : World) : Prop where
  low : Below W.heap.size W wr
  row : RowK wr 46 13 ao k cap (rvC L)
  len : L.length = k
  new : ∀ a, ao = some a → W.heap.size ≤ a.block
  told : ∀ j x, L[j]? = some x → x.1 = (mR j).1 ∧ ∃ b, x.2 = (some ⟨b, 0, none⟩, 1, 1) ∧ wr.heap[b]? = some (.cells (litC mB) 43 (0, 0))
theorem MkI.step {W wr U w' : World} {k : Nat} {L : List RvD} {ao : Option Addr} {cap g o' cap' b : Nat} (h : MkI W k L ao cap wr) (k4 : Below wr.heap.size wr U)
    (hb : U.heap[b]? = some (.cells (litC mB) 43 (0, 0)))
    (hR : RowK w' 46 13 (some ⟨g, o', none⟩) (k + 1) cap' (rvC L ++ (ruleC (mR k).1 (.slice (some ⟨b, 0, none⟩) 1 1)).toList)) (hg : U.grownBy w' (some g)) (hw : (ao = some ⟨g, o', none⟩ ∧ k < cap) ∨ U.heap.size ≤ g) :
    MkI W (k + 1) (L ++ [((mR k).1, (some ⟨b, 0, none⟩, 1, 1))]) (some ⟨g, o', none⟩) cap' w' := by
  have hrow : RowK U 46 13 ao k cap (rvC L) := h.row.kept (fun a ha => k4.block a.block (h.row.lt ha))
  have h4 : Below W.heap.size W U := h.low.trans (k4.mono h.low.size)
  have hgW : W.heap.size ≤ g := by
    rcases hw with ⟨e, _⟩ | h2
    · exact h.new _ e
    · have := h4.size; omega
  have keepB : ∀ (c : Nat) (C : Array Value), U.heap[c]? = some (.cells C 43 (0, 0)) → w'.heap[c]? = some (.cells C 43 (0, 0)) := fun c C hc => by
    have hlt := (Array.getElem?_eq_some_iff.1 hc).1
    have hne : g ≠ c := by
      rcases hw with ⟨e, _⟩ | h2
      · rintro rfl
        obtain ⟨cur, hcur⟩ := hrow.type e
        simp only at hcur
        rw [hc] at hcur
        simp at hcur
      · omega
    exact (hg.block c hlt (fun e => hne (Option.some.inj e).symm)).trans hc
  refine ⟨⟨hg.os.trans h4.os, hg.tape.trans h4.tape, hg.output.trans h4.output, Nat.le_trans h4.size hg.size, fun j hj => (hg.block j (by have := h4.size; omega) (fun e => by have := Option.some.inj e; omega)).trans (h4.block j hj)⟩, ?_, by simp [h.len], fun a ha => by cases ha; exact hgW, fun j x hx => ?_⟩
  · have e : rvC (L ++ [((mR k).1, (some ⟨b, 0, none⟩, 1, 1))]) = rvC L ++ (ruleC (mR k).1 (.slice (some ⟨b, 0, none⟩) 1 1)).toList := by
      unfold rvC
      rw [List.flatMap_append]
      simp [slV]
    rw [e]
    exact hR
  · rw [List.getElem?_append] at hx
    split at hx
    · obtain ⟨h1, c, h2, h3⟩ := h.told j x hx
      refine ⟨h1, c, h2, keepB c _ ((k4.block c (Array.getElem?_eq_some_iff.1 h3).1).trans h3)⟩
    · rename_i hj
      obtain ⟨hj0, rfl⟩ : j - L.length = 0 ∧ x = ((mR k).1, (some ⟨b, 0, none⟩, 1, 1)) := by
        cases e : j - L.length with
        | zero => rw [e] at hx; exact ⟨rfl, by simpa using hx.symm⟩
        | succ i => rw [e] at hx; simp at hx
      have hjk : j = k := by have := h.len; omega
      subst hjk
      exact ⟨rfl, b, rfl, keepB b _ hb⟩
theorem MkI.slice {W wr : World} {k : Nat} {L : List RvD} {ao : Option Addr} {cap : Nat} (h : MkI W k L ao cap wr) : SliceRu wr (.slice ao k cap) (mRs k) := by
  rcases h.row.2 with ⟨rfl, rfl, rfl⟩ | ⟨g, o, cur, rfl, hg, h1, h2, _, h3⟩
  · exact .inl ⟨rfl, rfl⟩
  · refine .inr ⟨g, o, cap, by rw [mRs_length], by rw [mRs_length]; exact h1, h2, fun i r hr => ?_⟩
    have hik : i < k := by have := (List.getElem?_eq_some_iff.1 hr).1; rwa [mRs_length] at this
    obtain rfl : r = mR i := by
      unfold mRs at hr
      rw [List.getElem?_map, List.getElem?_range hik] at hr
      simpa using hr.symm
    obtain ⟨x, hx⟩ : ∃ x, L[i]? = some x := ⟨_, List.getElem?_eq_getElem (by rw [h.len]; exact hik)⟩
    obtain ⟨e1, b, e2, e3⟩ := h.told i x hx
    have key : ∀ c u, c < 13 → (ruleC x.1 (slV x.2)).toList[c]? = some u → wr.cell? ⟨g, o + i * 13 + c, none⟩ = some u := fun c u hc hu => by
      rw [Nat.add_assoc]
      refine cell_in hg (h3 (i * 13 + c) u ?_)
      unfold rvC
      rw [flat_get (fun x : RvD => (ruleC x.1 (slV x.2)).toList) 13 (fun _ => rfl) L i c x hx hc]
      exact hu
    rw [e1] at key
    refine ⟨slV x.2, ⟨key 0 _ (by omega) rfl, key 1 _ (by omega) rfl, key 2 _ (by omega) rfl, key 3 _ (by omega) rfl, key 4 _ (by omega) rfl, key 5 _ (by omega) rfl, key 6 _ (by omega) rfl, key 7 _ (by omega) rfl, key 8 _ (by omega) rfl, key 9 _ (by omega) rfl, key 10 _ (by omega) rfl, key 11 _ (by omega) rfl, key 12 _ (by omega) rfl⟩, ?_⟩
    rw [e2]
    refine .inr ⟨b, 0, 1, rfl, by show (1 : Nat) ≤ 1; omega, by decide, fun j u hu => ?_⟩
    rw [Nat.zero_add]
    refine cell_in e3 ?_
    have : flatL [mB] = (litC mB).toList := by simp [flatL]
    rw [show (mR i).2 = [mB] from rfl, this] at hu
    simpa using hu
end Go.Proofs.YtlkiigoblkfkpaaGreatDoor

