/-
  A MAP KEYED BY NUMBERS OF 32 BITS: an entry goes; how many there are; a look-up without 'ok'.
-/
import Derived.Test.YtloonndeojfepaaUnMap2
namespace Go.Proofs.Ytloonndeojfepaa
open Go.RowKit
set_option linter.unusedVariables false
set_option linter.unusedSimpArgs false

section
variable {V : Type} {enc : V → Value} {W : World} {b : Nat} {f : Nat → Option V}
theorem MapU.look1 {P : Program} {t k e : TypeId} {z : Value} (h : MapU enc W b f) (ht : P.underlying t = some (.map k e)) (hk : P.underlying k = some (.int .u32)) (hz : (zeroValue e).run P W = .ok z W) (r : Nat) :
    (Instr.lookup t (.map (some b)) (keyU r) false).run P W = .ok (((f r).map enc).getD z) W := by
  obtain ⟨es, c, h1, h2⟩ := h.find r
  have hc : ∀ em, (Instr.checkKey em 10000 k (keyU r)).run P W = .ok () W := fun em => MapKept.run_checkKey hk (isKey_int .u32 (r : Int)) em 9999
  cases hf : f r with
  | none =>
    rw [hf] at h2
    simp [Instr.lookup, run_underlying ht, MapKept.run_getObj_map h1, hc, MapKept.run_findKey hk (findNow_new .u32 (r : Int) es.toList 0 h2), hz, Result.andThen]
  | some v =>
    rw [hf] at h2
    obtain ⟨j, hj⟩ := h2
    simp [Instr.lookup, run_underlying ht, MapKept.run_getObj_map h1, hc, MapKept.run_findKey hk hj, Result.andThen]
theorem MapU.drop {P : Program} {t k e : TypeId} (h : MapU enc W b f) (ht : P.underlying t = some (.map k e)) (hk : P.underlying k = some (.int .u32)) (ty kt : TypeId) (r : Nat) :
    ∃ ob, (∀ U : World, U.heap = W.heap → (Builtin.delete_ #[t, kt] ty #[.map (some b), keyU r]).run P U = .ok (.tuple #[]) { U with heap := U.heap.setIfInBounds b ob }) ∧
      ∀ U : World, U.heap[b]? = some ob → MapU enc U b (fun q => if r = q then none else f q) := by
  obtain ⟨es, c, h1, h2, h3, h4, h8, h9⟩ := h
  cases hf : f r with
  | none =>
    have hno : ∀ x ∈ es.toList, ∃ j : Int, x.key = .int .u32 j ∧ j ≠ (r : Int) := fun x hx => by
      obtain ⟨s, v2, hk2, _, hv⟩ := h2 x hx
      refine ⟨(s : Int), hk2, fun e => ?_⟩
      obtain rfl : s = r := by omega
      rw [hf] at hv
      cases hv
    have he : (fun q => if r = q then none else f q) = f := by
      funext q
      by_cases e : r = q
      · subst e; simp [hf]
      · simp [e]
    refine ⟨.map es c, fun U hU => ?_, fun U hU => ?_⟩
    · have hb : U.heap[b]? = some (.map es c) := by rw [hU]; exact h1
      have hc : ∀ em, (Instr.checkKey em 10000 k (keyU r)).run P U = .ok () U := fun em => MapKept.run_checkKey hk (isKey_int .u32 (r : Int)) em 9999
      simp [Builtin.delete_, run_underlying ht, MapKept.run_getObj_map hb, hc, MapKept.run_findKey hk (findNow_new .u32 (r : Int) es.toList 0 hno), MapKept.run_setObj_map _ hb, Result.andThen]
    · rw [he]
      exact ⟨es, c, hU, h2, h3, h4, h8, h9⟩
  | some v0 =>
    obtain ⟨j, x, hj, hkx, hn⟩ := findNow_hit r es.toList 0 (fun x hx => by obtain ⟨s, _, h, _⟩ := h2 x hx; exact ⟨s, h⟩) (h3 r v0 hf)
    rw [Nat.zero_add] at hn
    have hjl : j < es.size := by simpa using (List.getElem?_eq_some_iff.1 hj).1
    have hel : (es.eraseIdxIfInBounds j).toList = es.toList.eraseIdx j := by simp [Array.eraseIdxIfInBounds, hjl]
    have hsp : es.toList = es.toList.take j ++ x :: es.toList.drop (j + 1) := by
      obtain ⟨hl, hx⟩ := List.getElem?_eq_some_iff.1 hj
      rw [← hx, List.getElem_cons_drop, List.take_append_drop]
    have hnot : ∀ y ∈ es.toList.eraseIdx j, y.key ≠ keyU r := fun y hy e => by
      rw [List.eraseIdx_eq_take_drop_succ] at hy
      rw [hsp, List.map_append, List.map_cons] at h4
      rw [List.nodup_append, List.nodup_cons] at h4
      obtain ⟨_, ⟨n2, _⟩, n3⟩ := h4
      rcases List.mem_append.1 hy with hy | hy
      · exact n3 _ (List.mem_map.2 ⟨y, hy, rfl⟩) _ (List.mem_cons_self ..) (e.trans hkx.symm)
      · exact n2 (List.mem_map.2 ⟨y, hy, e.trans hkx.symm⟩)
    have hsub : ∀ y ∈ es.toList.eraseIdx j, y ∈ es.toList := fun y hy => List.mem_of_mem_eraseIdx hy
    refine ⟨.map (es.eraseIdxIfInBounds j) c, fun U hU => ?_, fun U hU => ⟨_, _, hU, ?_, ?_, ?_, ?_, ?_⟩⟩
    · have hb : U.heap[b]? = some (.map es c) := by rw [hU]; exact h1
      have hc : ∀ em, (Instr.checkKey em 10000 k (keyU r)).run P U = .ok () U := fun em => MapKept.run_checkKey hk (isKey_int .u32 (r : Int)) em 9999
      simp [Builtin.delete_, run_underlying ht, MapKept.run_getObj_map hb, hc, MapKept.run_findKey hk hn, MapKept.run_setObj_map _ hb, Result.andThen]
    · rw [hel]
      intro y hy
      obtain ⟨q, m, h5, h6, h7⟩ := h2 y (hsub y hy)
      refine ⟨q, m, h5, h6, ?_⟩
      show (if r = q then none else f q) = some m
      rw [if_neg (fun e => hnot y hy (by rw [h5, e]))]
      exact h7
    · intro q m hm
      rw [hel]
      have hm2 : (if r = q then none else f q) = some m := hm
      by_cases e : r = q
      · rw [if_pos e] at hm2; cases hm2
      · rw [if_neg e] at hm2
        obtain ⟨y, hy, hky⟩ := h3 q m hm2
        refine ⟨y, ?_, hky⟩
        rw [hsp] at hy
        rw [List.eraseIdx_eq_take_drop_succ]
        rcases List.mem_append.1 hy with hy | hy
        · exact List.mem_append.2 (.inl hy)
        · rcases List.mem_cons.1 hy with rfl | hy
          · exact absurd (keyU_inj (hkx.symm.trans hky)) e
          · exact List.mem_append.2 (.inr hy)
    · rw [hel]
      exact h4.sublist ((List.eraseIdx_sublist ..).map _)
    · rw [hel]
      exact fun y hy => h8 y (hsub y hy)
    · rw [hel]
      exact h9.sublist ((List.eraseIdx_sublist ..).map _)
end
end Go.Proofs.Ytloonndeojfepaa
