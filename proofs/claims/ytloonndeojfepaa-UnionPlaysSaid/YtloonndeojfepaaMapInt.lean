/-
  A MAP WITH INTEGER KEYS OF WHICH ALL ENTRIES ARE KNOWN: a new key comes behind; a look-up with 'ok'.
-/
import Derived.MapKept
import Derived.WideMake
import Derived.OwnWalk
import Derived.Below
import Derived.Maps.Own
namespace Go.Proofs.Ytloonndeojfepaa
open Go.RowKit

section
variable {P : Program} (w : World)

theorem isKey_int (q : IntKind) (i : Int) : MapKept.IsKey (.int q) (.int q i) := by simp [MapKept.IsKey]

theorem findNow_new (q : IntKind) (i : Int) : ∀ (l : List MapEntry) (n : Nat), (∀ x ∈ l, ∃ j, x.key = .int q j ∧ j ≠ i) → Instr.findNow (.int q) (.int q i) l n = some none
  | [], _, _ => rfl
  | e :: es, n, h => by
    obtain ⟨j, hj, hne⟩ := h e (by simp)
    have h1 : Instr.sameNow (.int q) (.int q i) e.key = some false := by
      rw [hj]
      simp [Instr.sameNow]
      exact fun h => hne h.symm
    unfold Instr.findNow
    rw [h1]
    exact findNow_new q i es (n + 1) fun x hx => h x (by simp [hx])

theorem run_insert_int {t k e : TypeId} {q : IntKind} (ht : P.underlying t = some (.map k e)) (hk : P.underlying k = some (.int q)) {b clock : Nat} {es : Array MapEntry} (hb : w.heap[b]? = some (.map es clock)) (i : Int) (val : Value)
    (hnew : ∀ x ∈ es.toList, ∃ j, x.key = .int q j ∧ j ≠ i) :
    (Instr.mapUpdate t (.map (some b)) (.int q i) val).run P w = .ok () { w with heap := w.heap.setIfInBounds b (.map (es.push { key := .int q i, val := val, born := clock }) (clock + 1)) } := by
  have hc : (Instr.checkKey false 10000 k (.int q i)).run P w = .ok () w := MapKept.run_checkKey hk (isKey_int q i) false 9999
  simp [Instr.mapUpdate, run_underlying ht, MapKept.run_getObj_map hb, hc, MapKept.run_findKey hk (findNow_new q i es.toList 0 hnew), MapKept.run_setObj_map _ hb, Result.andThen]

theorem wpList_insert_int {ops : Array Oper} {rest : List Oper} {o : Oper} {a : Act} {Q : Exit → Act → World → Prop}
    (hg : o.guard = none) (m x v : Operand) (t : TypeId) (hop : o.op = Op.insert t m x v) (k e : TypeId) (q : IntKind) (ht : P.underlying t = some (.map k e)) (hk : P.underlying k = some (.int q))
    (b clock : Nat) (es : Array MapEntry) (hm : a.eval m = .map (some b)) (hb : w.heap[b]? = some (.map es clock)) (i : Int) (hx : a.eval x = .int q i) (val : Value) (hv : a.eval v = val)
    (hnew : ∀ y ∈ es.toList, ∃ j, y.key = .int q j ∧ j ≠ i)
    (hK : ∀ w', w'.heap[b]? = some (.map (es.push { key := .int q i, val := val, born := clock }) (clock + 1)) → w.grownBy w' (some b) → wpList P ops Q rest (a.put o.dst undef) w') :
    wpList P ops Q (o :: rest) a w := by
  refine wpList_plain hg fun K' hK' => ?_
  unfold Oper.wp
  simp [execOp, hop, hm, hx, hv, run_insert_int w ht hk hb i val hnew, Result.andThen]
  refine hK' _ _ (hK _ ?_ ?_)
  · exact (MapKept.heap_set hb).1
  · exact ⟨rfl, rfl, rfl, by simp, fun j _ hj => (MapKept.heap_set hb).2 j (fun e => hj (by rw [e]))⟩

theorem run_look_hit {t k e : TypeId} {q : IntKind} (ht : P.underlying t = some (.map k e)) (hk : P.underlying k = some (.int q)) {b clock : Nat} {es : Array MapEntry} (hb : w.heap[b]? = some (.map es clock)) (i : Int) (m : Nat) (v : Value)
    (hf : Instr.findNow (.int q) (.int q i) es.toList 0 = some (some (m, v))) :
    (Instr.lookup t (.map (some b)) (.int q i) true).run P w = .ok (.tuple #[v, .bool true]) w := by
  have hc : ∀ em, (Instr.checkKey em 10000 k (.int q i)).run P w = .ok () w := fun em => MapKept.run_checkKey hk (isKey_int q i) em 9999
  simp [Instr.lookup, run_underlying ht, MapKept.run_getObj_map hb, hc, MapKept.run_findKey hk hf, Result.andThen]

theorem run_look_miss {t k e : TypeId} {q : IntKind} (ht : P.underlying t = some (.map k e)) (hk : P.underlying k = some (.int q)) {b clock : Nat} {es : Array MapEntry} (hb : w.heap[b]? = some (.map es clock)) (i : Int) (z : Value)
    (hz : (zeroValue e).run P w = .ok z w) (hnew : ∀ x ∈ es.toList, ∃ j, x.key = .int q j ∧ j ≠ i) :
    (Instr.lookup t (.map (some b)) (.int q i) true).run P w = .ok (.tuple #[z, .bool false]) w := by
  have hc : ∀ em, (Instr.checkKey em 10000 k (.int q i)).run P w = .ok () w := fun em => MapKept.run_checkKey hk (isKey_int q i) em 9999
  simp [Instr.lookup, run_underlying ht, MapKept.run_getObj_map hb, hc, MapKept.run_findKey hk (findNow_new q i es.toList 0 hnew), hz, Result.andThen]
end
end Go.Proofs.Ytloonndeojfepaa
