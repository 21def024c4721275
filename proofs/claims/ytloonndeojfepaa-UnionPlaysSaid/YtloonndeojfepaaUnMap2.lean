/-
  A MAP KEYED BY NUMBERS OF 32 BITS: an entry is written, new or over what was.
-/
import Derived.Test.YtloonndeojfepaaUnMap
namespace Go.Proofs.Ytloonndeojfepaa
open Go.RowKit
set_option linter.unusedVariables false
set_option linter.unusedSimpArgs false

section
variable {V : Type} {enc : V → Value} {W : World} {b : Nat} {f : Nat → Option V}
theorem modify_key (es : Array MapEntry) (j : Nat) (r : Nat) (v : Value) (x : MapEntry) (hj : es[j]? = some x) (hx : x.key = keyU r) : (es.modify j fun e => { e with key := keyU r, val := v }).toList.map (·.key) = es.toList.map (·.key) := by
  apply List.ext_getElem?
  intro i
  simp only [List.getElem?_map, Array.getElem?_toList, Array.getElem?_modify]
  by_cases hij : j = i
  · subst hij
    rw [hj]
    simp [hx]
  · simp [hij]
theorem modify_born (es : Array MapEntry) (j : Nat) (k v : Value) : (es.modify j fun e => { e with key := k, val := v }).toList.map (·.born) = es.toList.map (·.born) := by
  apply List.ext_getElem?
  intro i
  simp only [List.getElem?_map, Array.getElem?_toList, Array.getElem?_modify]
  by_cases hij : j = i
  · subst hij
    cases es[j]? <;> simp
  · simp [hij]
theorem MapU.put {P : Program} {t k e : TypeId} (h : MapU enc W b f) (ht : P.underlying t = some (.map k e)) (hk : P.underlying k = some (.int .u32)) (r : Nat) (v : V) :
    ∃ ob, (∀ U : World, U.heap = W.heap → (Instr.mapUpdate t (.map (some b)) (keyU r) (enc v)).run P U = .ok () { U with heap := U.heap.setIfInBounds b ob }) ∧
      ∀ U : World, U.heap[b]? = some ob → MapU enc U b (fun q => if r = q then some v else f q) := by
  obtain ⟨es, c, h1, h2, h3, h4, h8, h9⟩ := h
  cases hf : f r with
  | none =>
    have hno : ∀ x ∈ es.toList, ∃ j : Int, x.key = .int .u32 j ∧ j ≠ (r : Int) := fun x hx => by
      obtain ⟨s, v2, hk2, _, hv⟩ := h2 x hx
      refine ⟨(s : Int), hk2, fun e => ?_⟩
      obtain rfl : s = r := by omega
      rw [hf] at hv
      cases hv
    refine ⟨.map (es.push { key := keyU r, val := enc v, born := c }) (c + 1), fun U hU => run_insert_int U ht hk (by rw [hU]; exact h1) (r : Int) (enc v) hno, fun U hU => ⟨_, _, hU, ?_, ?_, ?_, ?_, ?_⟩⟩
    · intro x hx
      simp only [Array.toList_push, List.mem_append, List.mem_singleton] at hx
      rcases hx with hx | rfl
      · obtain ⟨q, m, h5, h6, h7⟩ := h2 x hx
        refine ⟨q, m, h5, h6, ?_⟩
        show (if r = q then some v else f q) = some m
        rw [if_neg (fun e => by rw [← e, hf] at h7; cases h7)]
        exact h7
      · exact ⟨r, v, rfl, rfl, if_pos rfl⟩
    · intro q m hm
      simp only [Array.toList_push, List.mem_append, List.mem_singleton]
      by_cases e : r = q
      · subst e
        exact ⟨_, .inr rfl, rfl⟩
      · replace hm : (if r = q then some v else f q) = some m := hm
        rw [if_neg e] at hm
        obtain ⟨x, hx, hk⟩ := h3 q m hm
        exact ⟨x, .inl hx, hk⟩
    · rw [Array.toList_push, List.map_append, List.nodup_append]
      refine ⟨h4, by simp, fun x hx y hy => ?_⟩
      simp only [List.map_cons, List.map_nil, List.mem_singleton] at hy
      subst hy
      obtain ⟨z, hz, rfl⟩ := List.mem_map.1 hx
      obtain ⟨j, hj, hne⟩ := hno z hz
      rw [hj]
      intro e
      injection e with _ e
      exact hne e
    · intro x hx
      simp only [Array.toList_push, List.mem_append, List.mem_singleton] at hx
      rcases hx with hx | rfl
      · have := h8 x hx
        omega
      · exact Nat.lt_succ_self _
    · rw [Array.toList_push, List.map_append, List.nodup_append]
      refine ⟨h9, by simp, fun x hx y hy => ?_⟩
      simp only [List.map_cons, List.map_nil, List.mem_singleton] at hy
      subst hy
      obtain ⟨z, hz, rfl⟩ := List.mem_map.1 hx
      have := h8 z hz
      omega
  | some v0 =>
    obtain ⟨j, x, hj, hkx, hn⟩ := findNow_hit r es.toList 0 (fun x hx => by obtain ⟨s, _, h, _⟩ := h2 x hx; exact ⟨s, h⟩) (h3 r v0 hf)
    rw [Nat.zero_add] at hn
    have hj2 : es[j]? = some x := by simpa using hj
    have hmk := modify_key es j r (enc v) x hj2 hkx
    refine ⟨.map (es.modify j fun e => { e with key := keyU r, val := enc v }) c, fun U hU => ?_, fun U hU => ⟨_, _, hU, ?_, ?_, by rw [hmk]; exact h4, ?_, by rw [modify_born]; exact h9⟩⟩
    · have hb : U.heap[b]? = some (.map es c) := by rw [hU]; exact h1
      have hc : (Instr.checkKey false 10000 k (keyU r)).run P U = .ok () U := MapKept.run_checkKey hk (isKey_int .u32 (r : Int)) false 9999
      have hs : (Instr.keyThatStays (keyU r) (keyU r)).run P U = .ok (keyU r) U := MapKept.run_keyThatStays (isKey_int .u32 (r : Int))
      simp [Instr.mapUpdate, run_underlying ht, MapKept.run_getObj_map hb, hc, MapKept.run_findKey hk hn, hj2, hkx, hs, MapKept.run_setObj_map _ hb, Result.andThen]
    · intro y hy
      obtain ⟨i, hi⟩ := List.mem_iff_getElem?.1 hy
      rw [Array.getElem?_toList, Array.getElem?_modify] at hi
      by_cases hij : j = i
      · subst hij
        rw [if_pos rfl, hj2] at hi
        simp only [Option.map_some, Option.some.injEq] at hi
        subst hi
        exact ⟨r, v, rfl, rfl, if_pos rfl⟩
      · rw [if_neg hij] at hi
        obtain ⟨q, m, h5, h6, h7⟩ := h2 y (List.mem_iff_getElem?.2 ⟨i, by simpa using hi⟩)
        refine ⟨q, m, h5, h6, ?_⟩
        show (if r = q then some v else f q) = some m
        rw [if_neg]
        · exact h7
        · intro e
          subst e
          apply hij
          have hk1 : (es.toList.map (·.key))[j]? = some (keyU r) := by rw [List.getElem?_map, hj]; simp [hkx]
          have hk2 : (es.toList.map (·.key))[i]? = some (keyU r) := by rw [List.getElem?_map, Array.getElem?_toList, hi]; simp [h5]
          exact (List.getElem?_inj (List.getElem?_eq_some_iff.1 hk1).1 h4).1 (hk1.trans hk2.symm)
    · intro q m hm
      have hq : keyU q ∈ es.toList.map (·.key) := by
        by_cases e : r = q
        · subst e
          exact List.mem_map.2 ⟨x, List.mem_of_getElem? hj, hkx⟩
        · replace hm : (if r = q then some v else f q) = some m := hm
          rw [if_neg e] at hm
          obtain ⟨y, hy, hk⟩ := h3 q m hm
          exact List.mem_map.2 ⟨y, hy, hk⟩
      rw [← hmk] at hq
      obtain ⟨y, hy, hk⟩ := List.mem_map.1 hq
      exact ⟨y, hy, hk⟩
    · intro y hy
      have hb : y.born ∈ (es.modify j fun e => { e with key := keyU r, val := enc v }).toList.map (·.born) := List.mem_map.2 ⟨y, hy, rfl⟩
      rw [modify_born] at hb
      obtain ⟨z, hz, e⟩ := List.mem_map.1 hb
      rw [← e]
      exact h8 z hz
end
end Go.Proofs.Ytloonndeojfepaa
