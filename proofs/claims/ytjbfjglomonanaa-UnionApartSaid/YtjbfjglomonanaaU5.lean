/-
  WHAT THE PROOF STANDS ON, a part of it: MapInt, UnMap, UnMap2, UnMap3.
-/
import Derived.MapKept
import Derived.WideMake
import Derived.OwnWalk
import Derived.Below
import Derived.Maps.Own
import Derived.Test.YtjbfjglomonanaaU1
import Derived.Test.YtjbfjglomonanaaChecked
import Derived.Lib.Hide
/-
  A MAP WITH INTEGER KEYS OF WHICH ALL ENTRIES ARE KNOWN: a new key comes behind; a look-up with 'ok'.
-/

namespace Go.Proofs.Ytjbfjglomonanaa
open Go.RowKit

section
variable {P : Program} (w : World)

theorem isKey_int (q : IntKind) (i : Int) : MapKept.IsKey (.int q) (.int q i) := by simp [MapKept.IsKey]

theorem findNow_new (q : IntKind) (i : Int) : ∀ (l : List MapEntry) (n : Nat), (∀ x ∈ l, ∃ j, x.key = .int q j ∧ j ≠ i) → Instr.findNow (.int q) (.int q i) l n = some none
  | [], _, _ => rfl
  | e :: es, n, h => by
    obtain ⟨j, hj, hne⟩ := h e (by simp)
    have h1 : Instr.sameNow (.int q) (.int q i) e.key = some false := by
      rw [hj]
      simp [Instr.sameNow]
      exact fun h => hne h.symm
    unfold Instr.findNow
    rw [h1]
    exact findNow_new q i es (n + 1) fun x hx => h x (by simp [hx])

theorem run_insert_int {t k e : TypeId} {q : IntKind} (ht : P.underlying t = some (.map k e)) (hk : P.underlying k = some (.int q)) {b clock : Nat} {es : Array MapEntry} (hb : w.heap[b]? = some (.map es clock)) (i : Int) (val : Value)
    (hnew : ∀ x ∈ es.toList, ∃ j, x.key = .int q j ∧ j ≠ i) :
    (Instr.mapUpdate t (.map (some b)) (.int q i) val).run P w = .ok () { w with heap := w.heap.setIfInBounds b (.map (es.push { key := .int q i, val := val, born := clock }) (clock + 1)) } := by
  have hc : (Instr.checkKey false 10000 k (.int q i)).run P w = .ok () w := MapKept.run_checkKey hk (isKey_int q i) false 9999
  simp [Instr.mapUpdate, run_underlying ht, MapKept.run_getObj_map hb, hc, MapKept.run_findKey hk (findNow_new q i es.toList 0 hnew), MapKept.run_setObj_map _ hb, Result.andThen]

theorem run_look_hit {t k e : TypeId} {q : IntKind} (ht : P.underlying t = some (.map k e)) (hk : P.underlying k = some (.int q)) {b clock : Nat} {es : Array MapEntry} (hb : w.heap[b]? = some (.map es clock)) (i : Int) (m : Nat) (v : Value)
    (hf : Instr.findNow (.int q) (.int q i) es.toList 0 = some (some (m, v))) :
    (Instr.lookup t (.map (some b)) (.int q i) true).run P w = .ok (.tuple #[v, .bool true]) w := by
  have hc : ∀ em, (Instr.checkKey em 10000 k (.int q i)).run P w = .ok () w := fun em => MapKept.run_checkKey hk (isKey_int q i) em 9999
  simp [Instr.lookup, run_underlying ht, MapKept.run_getObj_map hb, hc, MapKept.run_findKey hk hf, Result.andThen]

theorem run_look_miss {t k e : TypeId} {q : IntKind} (ht : P.underlying t = some (.map k e)) (hk : P.underlying k = some (.int q)) {b clock : Nat} {es : Array MapEntry} (hb : w.heap[b]? = some (.map es clock)) (i : Int) (z : Value)
    (hz : (zeroValue e).run P w = .ok z w) (hnew : ∀ x ∈ es.toList, ∃ j, x.key = .int q j ∧ j ≠ i) :
    (Instr.lookup t (.map (some b)) (.int q i) true).run P w = .ok (.tuple #[z, .bool false]) w := by
  have hc : ∀ em, (Instr.checkKey em 10000 k (.int q i)).run P w = .ok () w := fun em => MapKept.run_checkKey hk (isKey_int q i) em 9999
  simp [Instr.lookup, run_underlying ht, MapKept.run_getObj_map hb, hc, MapKept.run_findKey hk (findNow_new q i es.toList 0 hnew), hz, Result.andThen]
end
end Go.Proofs.Ytjbfjglomonanaa

/-
  A MAP KEYED BY NUMBERS OF 32 BITS that tells what f tells: look-ups.
-/

namespace Go.Proofs.Ytjbfjglomonanaa
open Go.RowKit
set_option linter.unusedVariables false
set_option linter.unusedSimpArgs false

abbrev keyU (r : Nat) : Value := .int .u32 (r : Int)
theorem keyU_inj {r s : Nat} (h : keyU r = keyU s) : r = s := by
  simp only [Value.int.injEq, true_and] at h
  omega
/-- A block is a map from numbers that tells what f tells; each key once, each entry of a time of its own. -/
def MapU {V : Type} (enc : V → Value) (W : World) (b : Nat) (f : Nat → Option V) : Prop :=
  ∃ es clock, W.heap[b]? = some (.map es clock) ∧ (∀ x ∈ es.toList, ∃ r v, x.key = keyU r ∧ x.val = enc v ∧ f r = some v) ∧ (∀ r v, f r = some v → ∃ x ∈ es.toList, x.key = keyU r) ∧ (es.toList.map (·.key)).Nodup ∧ (∀ x ∈ es.toList, x.born < clock) ∧ (es.toList.map (·.born)).Nodup
theorem findNow_hit (r : Nat) : ∀ (l : List MapEntry) (n : Nat), (∀ x ∈ l, ∃ s : Nat, x.key = keyU s) → (∃ x ∈ l, x.key = keyU r) → ∃ (j : Nat) (x : MapEntry), l[j]? = some x ∧ x.key = keyU r ∧ Instr.findNow (.int .u32) (keyU r) l n = some (some (n + j, x.val))
  | [], n, _, h => by obtain ⟨x, hx, _⟩ := h; cases hx
  | e :: es, n, ha, h => by
    obtain ⟨s, hs⟩ := ha e (by simp)
    by_cases hrs : s = r
    · subst hrs
      refine ⟨0, e, rfl, hs, ?_⟩
      unfold Instr.findNow
      have h1 : Instr.sameNow (.int .u32) (keyU s) e.key = some true := by
        rw [hs]
        simp [Instr.sameNow]
      rw [h1]
      rfl
    · have h1 : Instr.sameNow (.int .u32) (keyU r) e.key = some false := by
        rw [hs]
        simp [Instr.sameNow]
        omega
      obtain ⟨j, x, h2, h3, h4⟩ := findNow_hit r es (n + 1) (fun x hx => ha x (by simp [hx])) (by
        obtain ⟨x, hx, hk⟩ := h
        rcases List.mem_cons.1 hx with rfl | hx
        · exact absurd (keyU_inj (hs.symm.trans hk)) hrs
        · exact ⟨x, hx, hk⟩)
      refine ⟨j + 1, x, h2, h3, ?_⟩
      unfold Instr.findNow
      rw [h1]
      simp only []
      rw [h4, show n + 1 + j = n + (j + 1) by omega]
section
variable {V : Type} {enc : V → Value} {W U : World} {b : Nat} {f : Nat → Option V}
theorem MapU.lt (h : MapU enc W b f) : b < W.heap.size := by
  obtain ⟨es, c, h1, _⟩ := h
  exact (Array.getElem?_eq_some_iff.1 h1).1
theorem MapU.kept (h : MapU enc W b f) (k : U.heap[b]? = W.heap[b]?) : MapU enc U b f := by
  obtain ⟨es, c, h1, h2⟩ := h
  exact ⟨es, c, by rw [k]; exact h1, h2⟩
theorem MapU.new (h : W.heap[b]? = some (.map #[] 0)) : MapU enc W b (fun _ => none) := ⟨#[], 0, h, by simp, (fun r n h => by cases h), by simp, by simp, by simp⟩
theorem MapU.find (h : MapU enc W b f) (r : Nat) : ∃ es c, W.heap[b]? = some (.map es c) ∧ match f r with
    | none => (∀ x ∈ es.toList, ∃ j : Int, x.key = .int .u32 j ∧ j ≠ (r : Int))
    | some v => ∃ j, Instr.findNow (.int .u32) (keyU r) es.toList 0 = some (some (j, enc v)) := by
  obtain ⟨es, c, h1, h2, h3, h4⟩ := h
  refine ⟨es, c, h1, ?_⟩
  cases hf : f r with
  | none =>
    intro x hx
    obtain ⟨s, v, hk, _, hv⟩ := h2 x hx
    refine ⟨(s : Int), hk, fun e => ?_⟩
    obtain rfl : s = r := by omega
    rw [hf] at hv
    cases hv
  | some v =>
    obtain ⟨j, x, hj, hk, hn⟩ := findNow_hit r es.toList 0 (fun x hx => by obtain ⟨s, _, h, _⟩ := h2 x hx; exact ⟨s, h⟩) (h3 r v hf)
    obtain ⟨s, v2, hk2, hv2, hf2⟩ := h2 x (List.mem_of_getElem? hj)
    obtain rfl : s = r := keyU_inj (hk2.symm.trans hk)
    rw [hf] at hf2
    injection hf2 with hf2
    subst hf2
    exact ⟨_, by rw [hn, hv2]⟩
theorem MapU.look {P : Program} {t k e : TypeId} {z : Value} (h : MapU enc W b f) (ht : P.underlying t = some (.map k e)) (hk : P.underlying k = some (.int .u32)) (hz : (zeroValue e).run P W = .ok z W) (r : Nat) :
    (Instr.lookup t (.map (some b)) (keyU r) true).run P W = .ok (.tuple #[((f r).map enc).getD z, .bool (f r).isSome]) W := by
  obtain ⟨es, c, h1, h2⟩ := h.find r
  cases hf : f r with
  | none =>
    rw [hf] at h2
    exact run_look_miss W ht hk h1 (r : Int) z hz h2
  | some v =>
    rw [hf] at h2
    obtain ⟨j, hj⟩ := h2
    exact run_look_hit W ht hk h1 (r : Int) j (enc v) hj
end
end Go.Proofs.Ytjbfjglomonanaa

/-
  A MAP KEYED BY NUMBERS OF 32 BITS: an entry is written, new or over what was.
-/

namespace Go.Proofs.Ytjbfjglomonanaa
open Go.RowKit
set_option linter.unusedVariables false
set_option linter.unusedSimpArgs false

section
variable {V : Type} {enc : V → Value} {W : World} {b : Nat} {f : Nat → Option V}
theorem modify_key (es : Array MapEntry) (j : Nat) (r : Nat) (v : Value) (x : MapEntry) (hj : es[j]? = some x) (hx : x.key = keyU r) : (es.modify j fun e => { e with key := keyU r, val := v }).toList.map (·.key) = es.toList.map (·.key) := by
  apply List.ext_getElem?
  intro i
  simp only [List.getElem?_map, Array.getElem?_toList, Array.getElem?_modify]
  by_cases hij : j = i
  · subst hij
    rw [hj]
    simp [hx]
  · simp [hij]
theorem modify_born (es : Array MapEntry) (j : Nat) (k v : Value) : (es.modify j fun e => { e with key := k, val := v }).toList.map (·.born) = es.toList.map (·.born) := by
  apply List.ext_getElem?
  intro i
  simp only [List.getElem?_map, Array.getElem?_toList, Array.getElem?_modify]
  by_cases hij : j = i
  · subst hij
    cases es[j]? <;> simp
  · simp [hij]
theorem MapU.put {P : Program} {t k e : TypeId} (h : MapU enc W b f) (ht : P.underlying t = some (.map k e)) (hk : P.underlying k = some (.int .u32)) (r : Nat) (v : V) :
    ∃ ob, (∀ U : World, U.heap = W.heap → (Instr.mapUpdate t (.map (some b)) (keyU r) (enc v)).run P U = .ok () { U with heap := U.heap.setIfInBounds b ob }) ∧
      ∀ U : World, U.heap[b]? = some ob → MapU enc U b (fun q => if r = q then some v else f q) := by
  obtain ⟨es, c, h1, h2, h3, h4, h8, h9⟩ := h
  cases hf : f r with
  | none =>
    have hno : ∀ x ∈ es.toList, ∃ j : Int, x.key = .int .u32 j ∧ j ≠ (r : Int) := fun x hx => by
      obtain ⟨s, v2, hk2, _, hv⟩ := h2 x hx
      refine ⟨(s : Int), hk2, fun e => ?_⟩
      obtain rfl : s = r := by omega
      rw [hf] at hv
      cases hv
    refine ⟨.map (es.push { key := keyU r, val := enc v, born := c }) (c + 1), fun U hU => run_insert_int U ht hk (by rw [hU]; exact h1) (r : Int) (enc v) hno, fun U hU => ⟨_, _, hU, ?_, ?_, ?_, ?_, ?_⟩⟩
    · intro x hx
      simp only [Array.toList_push, List.mem_append, List.mem_singleton] at hx
      rcases hx with hx | rfl
      · obtain ⟨q, m, h5, h6, h7⟩ := h2 x hx
        refine ⟨q, m, h5, h6, ?_⟩
        show (if r = q then some v else f q) = some m
        rw [if_neg (fun e => by rw [← e, hf] at h7; cases h7)]
        exact h7
      · exact ⟨r, v, rfl, rfl, if_pos rfl⟩
    · intro q m hm
      simp only [Array.toList_push, List.mem_append, List.mem_singleton]
      by_cases e : r = q
      · subst e
        exact ⟨_, .inr rfl, rfl⟩
      · replace hm : (if r = q then some v else f q) = some m := hm
        rw [if_neg e] at hm
        obtain ⟨x, hx, hk⟩ := h3 q m hm
        exact ⟨x, .inl hx, hk⟩
    · rw [Array.toList_push, List.map_append, List.nodup_append]
      refine ⟨h4, by simp, fun x hx y hy => ?_⟩
      simp only [List.map_cons, List.map_nil, List.mem_singleton] at hy
      subst hy
      obtain ⟨z, hz, rfl⟩ := List.mem_map.1 hx
      obtain ⟨j, hj, hne⟩ := hno z hz
      rw [hj]
      intro e
      injection e with _ e
      exact hne e
    · intro x hx
      simp only [Array.toList_push, List.mem_append, List.mem_singleton] at hx
      rcases hx with hx | rfl
      · have := h8 x hx
        omega
      · exact Nat.lt_succ_self _
    · rw [Array.toList_push, List.map_append, List.nodup_append]
      refine ⟨h9, by simp, fun x hx y hy => ?_⟩
      simp only [List.map_cons, List.map_nil, List.mem_singleton] at hy
      subst hy
      obtain ⟨z, hz, rfl⟩ := List.mem_map.1 hx
      have := h8 z hz
      omega
  | some v0 =>
    obtain ⟨j, x, hj, hkx, hn⟩ := findNow_hit r es.toList 0 (fun x hx => by obtain ⟨s, _, h, _⟩ := h2 x hx; exact ⟨s, h⟩) (h3 r v0 hf)
    rw [Nat.zero_add] at hn
    have hj2 : es[j]? = some x := by simpa using hj
    have hmk := modify_key es j r (enc v) x hj2 hkx
    refine ⟨.map (es.modify j fun e => { e with key := keyU r, val := enc v }) c, fun U hU => ?_, fun U hU => ⟨_, _, hU, ?_, ?_, by rw [hmk]; exact h4, ?_, by rw [modify_born]; exact h9⟩⟩
    · have hb : U.heap[b]? = some (.map es c) := by rw [hU]; exact h1
      have hc : (Instr.checkKey false 10000 k (keyU r)).run P U = .ok () U := MapKept.run_checkKey hk (isKey_int .u32 (r : Int)) false 9999
      have hs : (Instr.keyThatStays (keyU r) (keyU r)).run P U = .ok (keyU r) U := MapKept.run_keyThatStays (isKey_int .u32 (r : Int))
      simp [Instr.mapUpdate, run_underlying ht, MapKept.run_getObj_map hb, hc, MapKept.run_findKey hk hn, hj2, hkx, hs, MapKept.run_setObj_map _ hb, Result.andThen]
    · intro y hy
      obtain ⟨i, hi⟩ := List.mem_iff_getElem?.1 hy
      rw [Array.getElem?_toList, Array.getElem?_modify] at hi
      by_cases hij : j = i
      · subst hij
        rw [if_pos rfl, hj2] at hi
        simp only [Option.map_some, Option.some.injEq] at hi
        subst hi
        exact ⟨r, v, rfl, rfl, if_pos rfl⟩
      · rw [if_neg hij] at hi
        obtain ⟨q, m, h5, h6, h7⟩ := h2 y (List.mem_iff_getElem?.2 ⟨i, by simpa using hi⟩)
        refine ⟨q, m, h5, h6, ?_⟩
        show (if r = q then some v else f q) = some m
        rw [if_neg]
        · exact h7
        · intro e
          subst e
          apply hij
          have hk1 : (es.toList.map (·.key))[j]? = some (keyU r) := by rw [List.getElem?_map, hj]; simp [hkx]
          have hk2 : (es.toList.map (·.key))[i]? = some (keyU r) := by rw [List.getElem?_map, Array.getElem?_toList, hi]; simp [h5]
          exact (List.getElem?_inj (List.getElem?_eq_some_iff.1 hk1).1 h4).1 (hk1.trans hk2.symm)
    · intro q m hm
      have hq : keyU q ∈ es.toList.map (·.key) := by
        by_cases e : r = q
        · subst e
          exact List.mem_map.2 ⟨x, List.mem_of_getElem? hj, hkx⟩
        · replace hm : (if r = q then some v else f q) = some m := hm
          rw [if_neg e] at hm
          obtain ⟨y, hy, hk⟩ := h3 q m hm
          exact List.mem_map.2 ⟨y, hy, hk⟩
      rw [← hmk] at hq
      obtain ⟨y, hy, hk⟩ := List.mem_map.1 hq
      exact ⟨y, hy, hk⟩
    · intro y hy
      have hb : y.born ∈ (es.modify j fun e => { e with key := keyU r, val := enc v }).toList.map (·.born) := List.mem_map.2 ⟨y, hy, rfl⟩
      rw [modify_born] at hb
      obtain ⟨z, hz, e⟩ := List.mem_map.1 hb
      rw [← e]
      exact h8 z hz
end
end Go.Proofs.Ytjbfjglomonanaa

/-
  A MAP KEYED BY NUMBERS OF 32 BITS: an entry goes; how many there are; a look-up without 'ok'.
-/

namespace Go.Proofs.Ytjbfjglomonanaa
open Go.RowKit
set_option linter.unusedVariables false
set_option linter.unusedSimpArgs false

section
variable {V : Type} {enc : V → Value} {W : World} {b : Nat} {f : Nat → Option V}
theorem MapU.look1 {P : Program} {t k e : TypeId} {z : Value} (h : MapU enc W b f) (ht : P.underlying t = some (.map k e)) (hk : P.underlying k = some (.int .u32)) (hz : (zeroValue e).run P W = .ok z W) (r : Nat) :
    (Instr.lookup t (.map (some b)) (keyU r) false).run P W = .ok (((f r).map enc).getD z) W := by
  obtain ⟨es, c, h1, h2⟩ := h.find r
  have hc : ∀ em, (Instr.checkKey em 10000 k (keyU r)).run P W = .ok () W := fun em => MapKept.run_checkKey hk (isKey_int .u32 (r : Int)) em 9999
  cases hf : f r with
  | none =>
    rw [hf] at h2
    simp [Instr.lookup, run_underlying ht, MapKept.run_getObj_map h1, hc, MapKept.run_findKey hk (findNow_new .u32 (r : Int) es.toList 0 h2), hz, Result.andThen]
  | some v =>
    rw [hf] at h2
    obtain ⟨j, hj⟩ := h2
    simp [Instr.lookup, run_underlying ht, MapKept.run_getObj_map h1, hc, MapKept.run_findKey hk hj, Result.andThen]
theorem MapU.drop {P : Program} {t k e : TypeId} (h : MapU enc W b f) (ht : P.underlying t = some (.map k e)) (hk : P.underlying k = some (.int .u32)) (ty kt : TypeId) (r : Nat) :
    ∃ ob, (∀ U : World, U.heap = W.heap → (Builtin.delete_ #[t, kt] ty #[.map (some b), keyU r]).run P U = .ok (.tuple #[]) { U with heap := U.heap.setIfInBounds b ob }) ∧
      ∀ U : World, U.heap[b]? = some ob → MapU enc U b (fun q => if r = q then none else f q) := by
  obtain ⟨es, c, h1, h2, h3, h4, h8, h9⟩ := h
  cases hf : f r with
  | none =>
    have hno : ∀ x ∈ es.toList, ∃ j : Int, x.key = .int .u32 j ∧ j ≠ (r : Int) := fun x hx => by
      obtain ⟨s, v2, hk2, _, hv⟩ := h2 x hx
      refine ⟨(s : Int), hk2, fun e => ?_⟩
      obtain rfl : s = r := by omega
      rw [hf] at hv
      cases hv
    have he : (fun q => if r = q then none else f q) = f := by
      funext q
      by_cases e : r = q
      · subst e; simp [hf]
      · simp [e]
    refine ⟨.map es c, fun U hU => ?_, fun U hU => ?_⟩
    · have hb : U.heap[b]? = some (.map es c) := by rw [hU]; exact h1
      have hc : ∀ em, (Instr.checkKey em 10000 k (keyU r)).run P U = .ok () U := fun em => MapKept.run_checkKey hk (isKey_int .u32 (r : Int)) em 9999
      simp [Builtin.delete_, run_underlying ht, MapKept.run_getObj_map hb, hc, MapKept.run_findKey hk (findNow_new .u32 (r : Int) es.toList 0 hno), MapKept.run_setObj_map _ hb, Result.andThen]
    · rw [he]
      exact ⟨es, c, hU, h2, h3, h4, h8, h9⟩
  | some v0 =>
    obtain ⟨j, x, hj, hkx, hn⟩ := findNow_hit r es.toList 0 (fun x hx => by obtain ⟨s, _, h, _⟩ := h2 x hx; exact ⟨s, h⟩) (h3 r v0 hf)
    rw [Nat.zero_add] at hn
    have hjl : j < es.size := by simpa using (List.getElem?_eq_some_iff.1 hj).1
    have hel : (es.eraseIdxIfInBounds j).toList = es.toList.eraseIdx j := by simp [Array.eraseIdxIfInBounds, hjl]
    have hsp : es.toList = es.toList.take j ++ x :: es.toList.drop (j + 1) := by
      obtain ⟨hl, hx⟩ := List.getElem?_eq_some_iff.1 hj
      rw [← hx, List.getElem_cons_drop, List.take_append_drop]
    have hnot : ∀ y ∈ es.toList.eraseIdx j, y.key ≠ keyU r := fun y hy e => by
      rw [List.eraseIdx_eq_take_drop_succ] at hy
      rw [hsp, List.map_append, List.map_cons] at h4
      rw [List.nodup_append, List.nodup_cons] at h4
      obtain ⟨_, ⟨n2, _⟩, n3⟩ := h4
      rcases List.mem_append.1 hy with hy | hy
      · exact n3 _ (List.mem_map.2 ⟨y, hy, rfl⟩) _ (List.mem_cons_self ..) (e.trans hkx.symm)
      · exact n2 (List.mem_map.2 ⟨y, hy, e.trans hkx.symm⟩)
    have hsub : ∀ y ∈ es.toList.eraseIdx j, y ∈ es.toList := fun y hy => List.mem_of_mem_eraseIdx hy
    refine ⟨.map (es.eraseIdxIfInBounds j) c, fun U hU => ?_, fun U hU => ⟨_, _, hU, ?_, ?_, ?_, ?_, ?_⟩⟩
    · have hb : U.heap[b]? = some (.map es c) := by rw [hU]; exact h1
      have hc : ∀ em, (Instr.checkKey em 10000 k (keyU r)).run P U = .ok () U := fun em => MapKept.run_checkKey hk (isKey_int .u32 (r : Int)) em 9999
      simp [Builtin.delete_, run_underlying ht, MapKept.run_getObj_map hb, hc, MapKept.run_findKey hk hn, MapKept.run_setObj_map _ hb, Result.andThen]
    · rw [hel]
      intro y hy
      obtain ⟨q, m, h5, h6, h7⟩ := h2 y (hsub y hy)
      refine ⟨q, m, h5, h6, ?_⟩
      show (if r = q then none else f q) = some m
      rw [if_neg (fun e => hnot y hy (by rw [h5, e]))]
      exact h7
    · intro q m hm
      rw [hel]
      have hm2 : (if r = q then none else f q) = some m := hm
      by_cases e : r = q
      · rw [if_pos e] at hm2; cases hm2
      · rw [if_neg e] at hm2
        obtain ⟨y, hy, hky⟩ := h3 q m hm2
        refine ⟨y, ?_, hky⟩
        rw [hsp] at hy
        rw [List.eraseIdx_eq_take_drop_succ]
        rcases List.mem_append.1 hy with hy | hy
        · exact List.mem_append.2 (.inl hy)
        · rcases List.mem_cons.1 hy with rfl | hy
          · exact absurd (keyU_inj (hkx.symm.trans hky)) e
          · exact List.mem_append.2 (.inr hy)
    · rw [hel]
      exact h4.sublist ((List.eraseIdx_sublist ..).map _)
    · rw [hel]
      exact fun y hy => h8 y (hsub y hy)
    · rw [hel]
      exact h9.sublist ((List.eraseIdx_sublist ..).map _)
end
end Go.Proofs.Ytjbfjglomonanaa

