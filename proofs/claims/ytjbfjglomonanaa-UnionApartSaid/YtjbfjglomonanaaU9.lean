/-
  WHAT THE PROOF STANDS ON, a part of it: UnRange.
-/
import Derived.Test.YtjbfjglomonanaaU5
import Derived.Test.YtjbfjglomonanaaU4
import Derived.Maps.RangeWalk
import Derived.Sort.MapsRangeIn
/-
  A RANGE OVER A MAP KEYED BY NUMBERS OF 32 BITS, in any order; the map stays as it is.
-/

namespace Go.Proofs.Ytjbfjglomonanaa
open Go.RowKit
open Go.ChangeMaps (setBlock)
set_option linter.unusedVariables false
set_option linter.unusedSimpArgs false

/-- An iterator over the map in block b, of what is told by f, that has given the keys of ks; cnt are left. -/
def IterU {V : Type} (enc : V → Value) (W : World) (b r : Nat) (f : Nat → Option V) (ks : List Nat) (cnt : Nat) : Prop :=
  ∃ es clock seen, W.heap[b]? = some (.map es clock) ∧ W.heap[r]? = some (.mapIter (some b) clock seen clock) ∧ (∀ x ∈ es.toList, x.born < clock) ∧ (∀ x ∈ es.toList, ∃ k v, x.key = keyU k ∧ x.val = enc v ∧ f k = some v) ∧ (∀ k v, f k = some v → ∃ x ∈ es.toList, x.key = keyU k) ∧ (es.toList.map (·.key)).Nodup ∧ (es.toList.map (·.born)).Nodup ∧
    (∀ x ∈ es.toList, ∀ k, x.key = keyU k → (seen.contains x.born = true ↔ k ∈ ks)) ∧ (leftOf es seen).size = cnt
section
variable {V : Type} {enc : V → Value} {W U : World} {b r : Nat} {f : Nat → Option V} {ks : List Nat} {cnt : Nat}
theorem IterU.kept (h : IterU enc W b r f ks cnt) (h1 : U.heap[b]? = W.heap[b]?) (h2 : U.heap[r]? = W.heap[r]?) : IterU enc U b r f ks cnt := by
  obtain ⟨es, c, seen, hb, hr, hh⟩ := h
  exact ⟨es, c, seen, by rw [h1]; exact hb, by rw [h2]; exact hr, hh⟩
theorem IterU.ltB (h : IterU enc W b r f ks cnt) : b < W.heap.size := by
  obtain ⟨es, c, seen, hb, _⟩ := h
  exact (Array.getElem?_eq_some_iff.1 hb).1
theorem IterU.ltR (h : IterU enc W b r f ks cnt) : r < W.heap.size := by
  obtain ⟨es, c, seen, _, hr, _⟩ := h
  exact (Array.getElem?_eq_some_iff.1 hr).1
theorem IterU.ne (h : IterU enc W b r f ks cnt) : r ≠ b := fun e => by
  obtain ⟨es, c, seen, hb, hr, _⟩ := h
  rw [e, hb] at hr
  cases hr
theorem IterU.noCells (h : IterU enc W b r f ks cnt) {g : Nat} {cs : Array Value} {t : TypeId} {fr : Nat × Nat} (hg : W.heap[g]? = some (.cells cs t fr)) : g ≠ b ∧ g ≠ r := by
  obtain ⟨es, c, seen, hb, hr, _⟩ := h
  constructor <;> intro e
  · rw [← e, hg] at hb; cases hb
  · rw [← e, hg] at hr; cases hr
theorem MapU.range {P : Program} {t k e : TypeId} (h : MapU enc W b f) (ht : P.underlying t = some (.map k e)) :
    ∃ w' cnt, (Instr.range t (.map (some b))).run P W = .ok (.pointer (some ⟨W.heap.size, 0, none⟩)) w' ∧ IterU enc w' b W.heap.size f [] cnt ∧ w' = W.alloc (.mapIter (some b) ((match W.heap[b]? with | some (.map _ c) => c | _ => 0)) #[] ((match W.heap[b]? with | some (.map _ c) => c | _ => 0))) := by
  obtain ⟨es, c, h1, h2, h3, h4, h8, h9⟩ := h
  have hlt : b < W.heap.size := (Array.getElem?_eq_some_iff.1 h1).1
  refine ⟨W.alloc (.mapIter (some b) c #[] c), _, run_range_map W t k e b es c ht h1, ⟨es, c, #[], (Below.heap_alloc _ _ _ hlt).trans h1, heap_alloc_new _ _, h8, h2, h3, h4, h9, fun x hx k hk => by simp, rfl⟩, by rw [h1]⟩
theorem IterU.next {P : Program} (h : IterU enc W b r f ks cnt) (ty : TypeId) :
    ((∀ k v, f k = some v → k ∈ ks) ∧ (Instr.next (.pointer (some ⟨r, 0, none⟩)) false ty).run P W = .ok (.tuple #[.bool false]) W) ∨
    ∃ (k : Nat) (v : V) (w' : World) (cnt' : Nat), f k = some v ∧ k ∉ ks ∧ (Instr.next (.pointer (some ⟨r, 0, none⟩)) false ty).run P W = .ok (.tuple #[.bool true, keyU k, enc v]) w' ∧ IterU enc w' b r f (ks ++ [k]) cnt' ∧ cnt' < cnt ∧
      Turned (fun j => j = r) W w' ∧ w'.heap.size = W.heap.size ∧ (Instr.entry (.pointer (some ⟨r, 0, none⟩))).run P w' = .ok (.tuple #[keyU k, enc v]) w' := by
  have hne := h.ne
  obtain ⟨es, clock, seen, hb, hr, h1, h2, h3, h4, h5, h6, rfl⟩ := h
  rcases run_next_at (P := P) W ty r b clock clock seen es clock hr hb h1 (Nat.le_refl _) with ⟨h0, hrun⟩ | ⟨e, he, w1, hal, hrun⟩
  · refine .inl ⟨fun k v hk => ?_, hrun⟩
    obtain ⟨x, hx, hkx⟩ := h3 k v hk
    exact (h6 x hx k hkx).1 (all_seen es seen h0 x hx)
  · obtain ⟨hem, hes⟩ := mem_left he
    obtain ⟨k, v, hk, hv, hf⟩ := h2 e hem
    have hr1 : w1.heap[r]? = some (.mapIter (some b) clock seen clock) := by rcases hal with rfl | rfl <;> exact hr
    have hb1 : w1.heap[b]? = some (.map es clock) := by rcases hal with rfl | rfl <;> exact hb
    have hset := MapKept.heap_set (o' := .mapIter (some b) clock (seen.push e.born) clock) hr1
    have hb' : (setBlock w1 r (.mapIter (some b) clock (seen.push e.born) clock)).heap[b]? = some (.map es clock) := (hset.2 b (fun e1 => hne e1.symm)).trans hb1
    rw [hk, hv] at hrun
    refine .inr ⟨k, v, _, _, hf, fun hin => ?_, hrun, ⟨es, clock, seen.push e.born, hb', hset.1, h1, h2, h3, h4, h5, fun x hx q hq => ?_, rfl⟩, left_shrinks es seen e he, ?_, ?_, ?_⟩
    · rw [(h6 e hem k hk).2 hin] at hes
      cases hes
    · rw [contains_push, Bool.or_eq_true, h6 x hx q hq, List.mem_append, List.mem_singleton, beq_iff_eq]
      constructor
      · rintro (hh | hh)
        · exact .inl hh
        · refine .inr ?_
          obtain rfl := born_inj h5 hx hem hh
          exact keyU_inj (hq.symm.trans hk)
      · rintro (hh | hh)
        · exact .inl hh
        · refine .inr ?_
          subst hh
          have : x = e := by
            obtain ⟨i, hi⟩ := List.getElem?_of_mem hx
            obtain ⟨j, hj⟩ := List.getElem?_of_mem hem
            have e1 : (es.toList.map (·.key))[i]? = some (keyU q) := by rw [List.getElem?_map, hi]; exact congrArg some hq
            have e2 : (es.toList.map (·.key))[j]? = some (keyU q) := by rw [List.getElem?_map, hj]; exact congrArg some hk
            have hij := (List.getElem?_inj (List.getElem?_eq_some_iff.1 e1).1 h4).1 (e1.trans e2.symm)
            subst hij
            rw [hi] at hj
            exact Option.some.inj hj
          rw [this]
    · rcases hal with rfl | rfl <;> exact ⟨rfl, rfl, rfl, by simp [setBlock], fun i _ hi => hset.2 i hi⟩
    · rcases hal with rfl | rfl <;> simp [setBlock]
    · have := run_entry_at (P := P) _ r b clock seen es clock e hset.1 hb' hem h5
      rw [hk, hv] at this
      exact this
end
section
variable {V : Type} {enc : V → Value} {P : Program} {w : World} {ops : Array Oper} {rest : List Oper} {o : Oper} {a : Act} {Q : Exit → Act → World → Prop} {F : Fence} {n : Nat}
/-- The step, in a walk. -/
theorem wpList_next_mapU (hg : o.guard = none) (it : Operand) (hop : o.op = Op.next it false) {b r : Nat} {f : Nat → Option V} {ks : List Nat} {cnt : Nat} (hit : a.eval it = .pointer (some ⟨r, 0, none⟩)) (h : IterU enc w b r f ks cnt)
    (hDone : (∀ k v, f k = some v → k ∈ ks) → wpList P ops Q rest (a.put o.dst (.tuple #[.bool false])) w)
    (hMore : ∀ (k : Nat) (v : V) (w' : World) (cnt' : Nat), f k = some v → k ∉ ks → IterU enc w' b r f (ks ++ [k]) cnt' → cnt' < cnt → Turned (fun j => j = r) w w' → w'.heap.size = w.heap.size → (Instr.entry (.pointer (some ⟨r, 0, none⟩))).run P w' = .ok (.tuple #[keyU k, enc v]) w' → wpList P ops Q rest (a.put o.dst (.tuple #[.bool true, keyU k, enc v])) w') :
    wpList P ops Q (o :: rest) a w := by
  refine wpList_plain hg fun K' hK' => ?_
  unfold Oper.wp
  rcases h.next (P := P) o.type with ⟨h0, hrun⟩ | ⟨k, v, w', cnt', hf, hk, hrun, hi, hlt, ht, hs, hen⟩
  · simp [execOp, hop, hit, hrun, Result.andThen]
    exact hK' _ _ (hDone h0)
  · simp [execOp, hop, hit, hrun, Result.andThen]
    exact hK' _ _ (hMore k v w' cnt' hf hk hi hlt ht hs hen)
theorem wpListIn_next_mapU (hg : o.guard = none) (it : Operand) (hop : o.op = Op.next it false) {b r : Nat} {f : Nat → Option V} {ks : List Nat} {cnt : Nat} (hit : a.eval it = .pointer (some ⟨r, 0, none⟩)) (h : IterU enc w b r f ks cnt)
    (hDone : (∀ k v, f k = some v → k ∈ ks) → wpListIn F n P ops Q rest (a.put o.dst (.tuple #[.bool false])) w)
    (hMore : ∀ (k : Nat) (v : V) (w' : World) (cnt' : Nat), f k = some v → k ∉ ks → IterU enc w' b r f (ks ++ [k]) cnt' → cnt' < cnt → Turned (fun j => j = r) w w' → w'.heap.size = w.heap.size → (Instr.entry (.pointer (some ⟨r, 0, none⟩))).run P w' = .ok (.tuple #[keyU k, enc v]) w' → wpListIn F n P ops Q rest (a.put o.dst (.tuple #[.bool true, keyU k, enc v])) w') :
    wpListIn F n P ops Q (o :: rest) a w := by
  refine wpListIn_plain hg fun K' hK' => ?_
  unfold Oper.wpIn
  refine ⟨by simp [Oper.about, hop], ?_⟩
  rw [Oper.semAt_plain F _ _ (by rw [hop]; intro c hc'; cases hc')]
  rcases h.next (P := P) o.type with ⟨h0, hrun⟩ | ⟨k, v, w', cnt', hf, hk, hrun, hi, hlt, ht, hs, hen⟩
  · simp [execOp, hop, hit, hrun, Result.andThen]
    exact hK' _ _ (hDone h0)
  · simp [execOp, hop, hit, hrun, Result.andThen]
    exact hK' _ _ (hMore k v w' cnt' hf hk hi hlt ht hs hen)
/-- The range's beginning, in a walk. -/
theorem wpList_range_mapU (hg : o.guard = none) (m : Operand) (t : TypeId) (hop : o.op = Op.range t m) {k e : TypeId} (ht : P.underlying t = some (.map k e)) {b : Nat} {f : Nat → Option V} (hm : a.eval m = .map (some b)) (h : MapU enc w b f)
    (hK : ∀ (w' : World) (cnt : Nat) (ob : Obj), w' = w.alloc ob → ob.isCells = false → IterU enc w' b w.heap.size f [] cnt → wpList P ops Q rest (a.put o.dst (.pointer (some ⟨w.heap.size, 0, none⟩))) w') :
    wpList P ops Q (o :: rest) a w := by
  refine wpList_plain hg fun K' hK' => ?_
  obtain ⟨w', cnt, hrun, hi, hw⟩ := h.range (P := P) ht
  unfold Oper.wp
  simp [execOp, hop, hm, hrun, Result.andThen]
  exact hK' _ _ (hK w' cnt (.mapIter _ _ _ _) hw rfl hi)
theorem wpListIn_range_mapU (hg : o.guard = none) (m : Operand) (t : TypeId) (hop : o.op = Op.range t m) {k e : TypeId} (ht : P.underlying t = some (.map k e)) {b : Nat} {f : Nat → Option V} (hm : a.eval m = .map (some b)) (h : MapU enc w b f)
    (hK : ∀ (w' : World) (cnt : Nat) (ob : Obj), w' = w.alloc ob → ob.isCells = false → IterU enc w' b w.heap.size f [] cnt → wpListIn F n P ops Q rest (a.put o.dst (.pointer (some ⟨w.heap.size, 0, none⟩))) w') :
    wpListIn F n P ops Q (o :: rest) a w := by
  refine wpListIn_plain hg fun K' hK' => ?_
  obtain ⟨w', cnt, hrun, hi, hw⟩ := h.range (P := P) ht
  unfold Oper.wpIn
  refine ⟨by simp [Oper.about, hop], ?_⟩
  rw [Oper.semAt_plain F _ _ (by rw [hop]; intro c hc'; cases hc')]
  simp [execOp, hop, hm, hrun, Result.andThen]
  exact hK' _ _ (hK w' cnt (.mapIter _ _ _ _) hw rfl hi)
theorem IterU.left_eq {W : World} {b r : Nat} {f : Nat → Option V} {ks : List Nat} {cnt : Nat} (h : IterU enc W b r f ks cnt) : W.rangeLeft b r = cnt := by
  obtain ⟨es, c, seen, hb, hr, hh⟩ := h
  simp only [World.rangeLeft, hb, hr]
  exact hh.2.2.2.2.2.2
end
end Go.Proofs.Ytjbfjglomonanaa

