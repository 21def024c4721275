/-
  WHAT THE PROOF STANDS ON, a part of it: RowKIn.
-/
import Derived.Test.YtlkiigoblkfkpaaGreatDoorC5
import Derived.Test.YtlkiigoblkfkpaaGreatDoorC6
import Derived.Maps.AppendAt
import Derived.RangeFuncGives
import Derived.Shelf.Abstract
import Derived.Shelf.RegionOpen
import Derived.OwnWalkIn
import Derived.TacticsInMore
/-
  append TO A ROW OF ONE'S OWN, within a round of a range over a function.
-/

namespace Go.Proofs.YtlkiigoblkfkpaaGreatDoor
open Go.RowKit Go.Shelf
set_option linter.unusedVariables false
set_option linter.unusedSimpArgs false
attribute [local go_sem] Oper.semAt_some

theorem wpListIn_append_rowk {F : Fence} {n : Nat} {P : Program} {w : World} {ops : Array Oper} {rest : List Oper} {o : Oper} {a : Act} {Q : Exit → Act → World → Prop}
    (hg : o.guard = none) (s x : Operand) (t : TypeId) (hop : o.op = Op.call { callee := Callee.builtin Builtin.append, args := #[s, x], argTypes := #[t, t] })
    (e : TypeId) (i : TypeInfo) (z : Value) (k bytes : Nat) (ht : P.underlying t = some (.slice e)) (hi : P.info? e = some i) (hz : i.zero = some z)
    (hsize : i.size = k) (hby : i.bytes = bytes) (hzs : z.cells.size = k) (hk : 0 < k)
    (ao : Option Addr) (m cap : Nat) (xs : List Value) (hs : a.eval s = .slice ao m cap) (h : RowK w e k ao m cap xs)
    (ad : Addr) (c : Nat) (news : List Value) (hx : a.eval x = .slice (some ad) 1 c) (hl : news.length = k) (hnews : ∀ j u, news[j]? = some u → w.cell? (ad.add j) = some u) (h1 : ∀ u ∈ news, u.oneCell' = true)
    (h63 : m + 1 ≤ maxLen) (hbytes : (m + 1) * bytes ≤ 140737488355328)
    (hK : ∀ g o' cap' w', RowK w' e k (some ⟨g, o', none⟩) (m + 1) cap' (xs ++ news) → w.grownBy w' (some g) → ((ao = some ⟨g, o', none⟩ ∧ m < cap) ∨ w.heap.size ≤ g) → wpListIn F n P ops Q rest (a.put o.dst (.slice (some ⟨g, o', none⟩) (m + 1) cap')) w') :
    wpListIn F n P ops Q (o :: rest) a w := by
  refine wpListIn_plain hg fun K hK' => ?_
  obtain ⟨g, o', cap', w', hrun, h2, h3, h4⟩ := run_append_rowk (P := P) w t o.type e i z k bytes ht hi hz hsize hby hzs hk ao m cap xs h ad c news hl hnews h1 h63 hbytes
  unfold Oper.wpIn
  refine ⟨?_, ?_⟩
  · simp [Oper.about, hop, resolve, Target.leads, Sem.run_pure]
  · rw [Oper.semAt_plain F _ _ (by rw [hop]; intro c hc'; cases hc')]
    simp [execOp, hop, resolve, invoke, builtin, hs, hx, hrun, Result.andThen]
    exact hK' _ _ (hK g o' cap' w' h2 h3 h4)
theorem grown_belowU {B : Nat} {W w1 : World} {g : Nat} (h : W.grownBy w1 (some g)) (hB : B ≤ W.heap.size) (hg : B ≤ g) : Below B W w1 :=
  ⟨h.os, h.tape, h.output, h.size, fun k hk => h.block k (by omega) (fun e => by injection e with e; omega)⟩
end Go.Proofs.YtlkiigoblkfkpaaGreatDoor

