/-
  WHAT THE PROOF STANDS ON, a part of it: BuildOne.
-/
import Derived.Deep.MidRow
import Derived.Great.BuildSlice
import Derived.RowKit2
import Derived.Deep.RegionHeldLaw
/-
  A SLICE OF ONE ELEMENT OF MANY CELLS, built by hand; an alloc by hand.
-/

namespace Go.Proofs.YtlkiigoblkfkpaaGreatDoor
open Go.RowKit
set_option linter.unusedVariables false
set_option linter.unusedSimpArgs false

theorem fold_set : ∀ (L : List Value) (k : Nat) (Z : Array Value) (i : Nat), k + L.length ≤ Z.size →
    ((L.zipIdx k).foldl (fun cs x => cs.setIfInBounds x.2 x.1) Z)[i]? = if k ≤ i ∧ i < k + L.length then L[i - k]? else Z[i]?
  | [], k, Z, i, _ => by simp; intro h1 h2; omega
  | c :: L, k, Z, i, h => by
    rw [List.zipIdx_cons, List.foldl_cons]
    simp only [List.length_cons] at h
    rw [fold_set L (k + 1) _ i (by simp; omega)]
    by_cases h1 : i = k
    · subst h1
      rw [if_neg (by omega), if_pos (by simp), Array.getElem?_setIfInBounds_self_of_lt (by omega), Nat.sub_self]
      rfl
    · rw [Array.getElem?_setIfInBounds_ne (fun e => h1 e.symm)]
      by_cases h2 : k + 1 ≤ i ∧ i < k + 1 + L.length
      · rw [if_pos h2, if_pos (by simp; omega), show i - k = (i - (k + 1)) + 1 by omega, List.getElem?_cons_succ]
      · rw [if_neg h2, if_neg (by simp; omega)]
theorem fill_one (C : List Value) (Z : Array Value) (hz : Z.size = C.length) : Instr.fill (fun i => some (i * C.length, C.length)) Z [(0, .agg C.toArray)] = some C.toArray := by
  have hc : (Value.agg C.toArray).cells = C.toArray := rfl
  rw [Instr.fill]
  simp only [hc, Nat.zero_mul, Nat.zero_add]
  rw [if_neg (by simp; omega), Instr.fill]
  congr 1
  rw [← Array.foldl_toList, Array.toList_zipIdx]
  apply Array.ext_getElem?
  intro i
  rw [fold_set _ 0 Z i (by simp; omega)]
  simp only [Nat.zero_le, true_and, Nat.zero_add, Nat.sub_zero, List.getElem?_toArray]
  split
  · rfl
  · rename_i h
    rw [Array.getElem?_eq_none (by omega), List.getElem?_eq_none (by omega)]
theorem run_buildOne {P : Program} (w : World) (t e : TypeId) (C : List Value) (hu : P.underlying t = some (.slice e)) (hi : (P.info? e).map (·.size) = some C.length) (hz : ((P.info? e).bind (·.zero)).isSome = true) (hp : 0 < C.length) (hs : C.length ≤ 1000) :
    (Instr.buildSlice t 1 #[(0, .agg C.toArray)]).run P w = .ok (.slice (some ⟨w.heap.size, 0, none⟩) 1 1) (w.alloc (.cells C.toArray e)) := by
  cases hie : P.info? e with
  | none => simp [hie] at hi
  | some ie =>
    simp only [hie, Option.map_some, Option.some.injEq, Option.bind_some] at hi hz
    obtain ⟨z, hzz⟩ := Option.isSome_iff_exists.1 hz
    refine run_buildSlice w t e 1 #[(0, .agg C.toArray)] C.toArray ie z hu hie hzz (by rw [hi]; omega) (by rw [hi]; omega) ?_
    rw [hi]
    exact fill_one C _ (by simp)
theorem wp_buildOne {P : Program} {o : Oper} {a : Act} {w : World} {K : Act → World → Prop} {Q : Exit → Act → World → Prop} (t e : TypeId) (x : Operand) (ho : o.op = .buildSlice t 1 #[(0, x)]) (C : List Value) (hx : a.eval x = .agg C.toArray)
    (hu : P.underlying t = some (.slice e)) (hi : (P.info? e).map (·.size) = some C.length) (hz : ((P.info? e).bind (·.zero)).isSome = true) (hp : 0 < C.length) (hs : C.length ≤ 1000)
    (h : K (a.put o.dst (.slice (some ⟨w.heap.size, 0, none⟩) 1 1)) (w.alloc (.cells C.toArray e))) : o.wp P a w K Q := by
  have hr := run_buildOne w t e C hu hi hz hp hs
  unfold Oper.wp execOp
  have he : (#[(0, x)].map fun (i, x) => (i, a.eval x)) = #[(0, Value.agg C.toArray)] := by simp [hx]
  simp only [ho, Sem.run_bind, he, hr, Result.andThen_ok]
  exact h
theorem wp_allocT {P : Program} {o : Oper} {a : Act} {w : World} {K : Act → World → Prop} {Q : Exit → Act → World → Prop} (t : TypeId) (ho : o.op = .alloc t) (v : Value) (ob : Obj) (hr : (Instr.alloc t true (.tuple #[])).run P w = .ok v (w.alloc ob))
    (h : K (a.put o.dst v) (w.alloc ob)) : o.wp P a w K Q := by
  unfold Oper.wp execOp
  simp only [ho, Sem.run_bind, hr, Result.andThen_ok]
  exact h
theorem wpList_load_wantR {P : Program} {ops : Array Oper} {rest : List Oper} {op : Oper} {a : Act} {w : World} {Q : Exit → Act → World → Prop} (hw : Region.wanted op (yielded ops a.tmps) = true) (ty : TypeId) (x : Operand) (ho : op.op = .load ty x)
    (b o : Nat) (hx : a.eval x = .pointer (some ⟨b, o, none⟩)) (cs : List Value) (d : TypeDesc) (hc : w.rangeAt b o cs)
    (hu : P.underlying ty = some d) (hd : d.isRow = true) (hi : (P.info? ty).map (·.size) = some cs.length)
    (h : wpList P ops Q rest (a.put op.dst (.agg cs.toArray)) w) : wpList P ops Q (op :: rest) a w :=
  wpList_step fun K hK => by
    rw [if_pos hw]
    exact wp_load_mid ty x ho b o hx cs d hc hu hd hi (hK _ _ h)
end Go.Proofs.YtlkiigoblkfkpaaGreatDoor

