/-
  A MAP KEYED BY NUMBERS OF 32 BITS that tells what f tells: look-ups.
-/
import Derived.Test.YtloonndeojfepaaMapInt
import Derived.Test.YtloonndeojfepaaOn
import Derived.Test.YtloonndeojfepaaChecked
import Derived.Lib.Hide
namespace Go.Proofs.Ytloonndeojfepaa
open Go.RowKit
set_option linter.unusedVariables false
set_option linter.unusedSimpArgs false

abbrev keyU (r : Nat) : Value := .int .u32 (r : Int)
theorem keyU_inj {r s : Nat} (h : keyU r = keyU s) : r = s := by
  simp only [Value.int.injEq, true_and] at h
  omega
/-- A block is a map from numbers that tells what f tells; each key once, each entry of a time of its own. -/
def MapU {V : Type} (enc : V → Value) (W : World) (b : Nat) (f : Nat → Option V) : Prop :=
  ∃ es clock, W.heap[b]? = some (.map es clock) ∧ (∀ x ∈ es.toList, ∃ r v, x.key = keyU r ∧ x.val = enc v ∧ f r = some v) ∧ (∀ r v, f r = some v → ∃ x ∈ es.toList, x.key = keyU r) ∧ (es.toList.map (·.key)).Nodup ∧ (∀ x ∈ es.toList, x.born < clock) ∧ (es.toList.map (·.born)).Nodup
theorem findNow_hit (r : Nat) : ∀ (l : List MapEntry) (n : Nat), (∀ x ∈ l, ∃ s : Nat, x.key = keyU s) → (∃ x ∈ l, x.key = keyU r) → ∃ (j : Nat) (x : MapEntry), l[j]? = some x ∧ x.key = keyU r ∧ Instr.findNow (.int .u32) (keyU r) l n = some (some (n + j, x.val))
  | [], n, _, h => by obtain ⟨x, hx, _⟩ := h; cases hx
  | e :: es, n, ha, h => by
    obtain ⟨s, hs⟩ := ha e (by simp)
    by_cases hrs : s = r
    · subst hrs
      refine ⟨0, e, rfl, hs, ?_⟩
      unfold Instr.findNow
      have h1 : Instr.sameNow (.int .u32) (keyU s) e.key = some true := by
        rw [hs]
        simp [Instr.sameNow]
      rw [h1]
      rfl
    · have h1 : Instr.sameNow (.int .u32) (keyU r) e.key = some false := by
        rw [hs]
        simp [Instr.sameNow]
        omega
      obtain ⟨j, x, h2, h3, h4⟩ := findNow_hit r es (n + 1) (fun x hx => ha x (by simp [hx])) (by
        obtain ⟨x, hx, hk⟩ := h
        rcases List.mem_cons.1 hx with rfl | hx
        · exact absurd (keyU_inj (hs.symm.trans hk)) hrs
        · exact ⟨x, hx, hk⟩)
      refine ⟨j + 1, x, h2, h3, ?_⟩
      unfold Instr.findNow
      rw [h1]
      simp only []
      rw [h4, show n + 1 + j = n + (j + 1) by omega]
section
variable {V : Type} {enc : V → Value} {W U : World} {b : Nat} {f : Nat → Option V}
theorem MapU.lt (h : MapU enc W b f) : b < W.heap.size := by
  obtain ⟨es, c, h1, _⟩ := h
  exact (Array.getElem?_eq_some_iff.1 h1).1
theorem MapU.kept (h : MapU enc W b f) (k : U.heap[b]? = W.heap[b]?) : MapU enc U b f := by
  obtain ⟨es, c, h1, h2⟩ := h
  exact ⟨es, c, by rw [k]; exact h1, h2⟩
theorem MapU.new (h : W.heap[b]? = some (.map #[] 0)) : MapU enc W b (fun _ => none) := ⟨#[], 0, h, by simp, (fun r n h => by cases h), by simp, by simp, by simp⟩
theorem MapU.find (h : MapU enc W b f) (r : Nat) : ∃ es c, W.heap[b]? = some (.map es c) ∧ match f r with
    | none => (∀ x ∈ es.toList, ∃ j : Int, x.key = .int .u32 j ∧ j ≠ (r : Int))
    | some v => ∃ j, Instr.findNow (.int .u32) (keyU r) es.toList 0 = some (some (j, enc v)) := by
  obtain ⟨es, c, h1, h2, h3, h4⟩ := h
  refine ⟨es, c, h1, ?_⟩
  cases hf : f r with
  | none =>
    intro x hx
    obtain ⟨s, v, hk, _, hv⟩ := h2 x hx
    refine ⟨(s : Int), hk, fun e => ?_⟩
    obtain rfl : s = r := by omega
    rw [hf] at hv
    cases hv
  | some v =>
    obtain ⟨j, x, hj, hk, hn⟩ := findNow_hit r es.toList 0 (fun x hx => by obtain ⟨s, _, h, _⟩ := h2 x hx; exact ⟨s, h⟩) (h3 r v hf)
    obtain ⟨s, v2, hk2, hv2, hf2⟩ := h2 x (List.mem_of_getElem? hj)
    obtain rfl : s = r := keyU_inj (hk2.symm.trans hk)
    rw [hf] at hf2
    injection hf2 with hf2
    subst hf2
    exact ⟨_, by rw [hn, hv2]⟩
theorem MapU.look {P : Program} {t k e : TypeId} {z : Value} (h : MapU enc W b f) (ht : P.underlying t = some (.map k e)) (hk : P.underlying k = some (.int .u32)) (hz : (zeroValue e).run P W = .ok z W) (r : Nat) :
    (Instr.lookup t (.map (some b)) (keyU r) true).run P W = .ok (.tuple #[((f r).map enc).getD z, .bool (f r).isSome]) W := by
  obtain ⟨es, c, h1, h2⟩ := h.find r
  cases hf : f r with
  | none =>
    rw [hf] at h2
    exact run_look_miss W ht hk h1 (r : Int) z hz h2
  | some v =>
    rw [hf] at h2
    obtain ⟨j, hj⟩ := h2
    exact run_look_hit W ht hk h1 (r : Int) j (enc v) hj
end
end Go.Proofs.Ytloonndeojfepaa
