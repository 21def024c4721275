/-
  WHAT THE PROOF STANDS ON, a part of it: RowK.
-/
import Derived.Test.YtlkiigoblkfkpaaGreatDoorC3
import Derived.Lib.Hide
import Derived.RowKit3
import Derived.Deep.MidRow
import Derived.Deep.RegionLaw
import Derived.Below
/-
  A SLICE OF ELEMENTS OF k CELLS IN MEMORY: what stays of it, one of its cells written, one element more behind it (in place, or in a new block).
-/

namespace Go.Proofs.YtlkiigoblkfkpaaGreatDoor
open Go.RowKit
set_option linter.unusedVariables false
set_option linter.unusedSimpArgs false

/-- Nil, or n elements of k cells each, in a block from some place on; where there is room behind them the block begins with them. -/
def RowK (W : World) (e : TypeId) (k : Nat) (ao : Option Addr) (n cap : Nat) (xs : List Value) : Prop :=
  xs.length = n * k ∧ ((ao = none ∧ n = 0 ∧ cap = 0) ∨
    ∃ g o cur, ao = some ⟨g, o, none⟩ ∧ W.heap[g]? = some (.cells cur e (0, 0)) ∧ n ≤ cap ∧ cap ≤ maxLen ∧ (n < cap → o = 0 ∧ cap * k ≤ cur.size) ∧ ∀ j u, xs[j]? = some u → cur[o + j]? = some u)
section
variable {W U : World} {e : TypeId} {k n cap : Nat} {ao : Option Addr} {xs : List Value}
theorem RowK.kept (h : RowK W e k ao n cap xs) (hk : ∀ a, ao = some a → U.heap[a.block]? = W.heap[a.block]?) : RowK U e k ao n cap xs := by
  refine ⟨h.1, h.2.imp id ?_⟩
  rintro ⟨g, o, cur, h0, hg, r⟩
  exact ⟨g, o, cur, h0, by rw [hk _ h0]; exact hg, r⟩
theorem RowK.lt (h : RowK W e k ao n cap xs) {a : Addr} (ha : ao = some a) : a.block < W.heap.size := by
  rcases h.2 with ⟨h0, _⟩ | ⟨g, o, cur, h0, hg, _⟩
  · rw [h0] at ha; cases ha
  · rw [h0] at ha
    cases ha
    exact (Array.getElem?_eq_some_iff.1 hg).1
theorem RowK.type (h : RowK W e k ao n cap xs) {a : Addr} (ha : ao = some a) : ∃ cur, W.heap[a.block]? = some (.cells cur e (0, 0)) := by
  rcases h.2 with ⟨h0, _⟩ | ⟨g, o, cur, h0, hg, _⟩
  · rw [h0] at ha; cases ha
  · rw [h0] at ha
    cases ha
    exact ⟨cur, hg⟩
theorem RowK.le (h : RowK W e k ao n cap xs) : n ≤ cap := by
  rcases h.2 with ⟨h0, h1, h2⟩ | ⟨g, o, cur, _, _, h3, _⟩
  · omega
  · exact h3
theorem RowK.at_ (h : RowK W e k ao n cap xs) (hn : 0 < n) : ∃ g o, ao = some ⟨g, o, none⟩ ∧ (∀ j u, xs[j]? = some u → W.cell? ⟨g, o + j, none⟩ = some u) ∧ ∀ i, W.frozen? ⟨g, i, none⟩ = false := by
  rcases h.2 with ⟨h0, h1, h2⟩ | ⟨g, o, cur, h0, hg, h3, h4, h5, h6⟩
  · omega
  · exact ⟨g, o, h0, fun j u hu => cell_in hg (h6 j u hu), fun i => free_in hg i⟩
/-- One cell of it is written. -/
theorem RowK.set (h : RowK W e k ao n cap xs) {g o : Nat} (ha : ao = some ⟨g, o, none⟩) (j : Nat) (v : Value) : RowK (W.setCell ⟨g, o + j, none⟩ v) e k ao n cap (xs.set j v) := by
  refine ⟨by rw [List.length_set]; exact h.1, ?_⟩
  rcases h.2 with ⟨h0, _⟩ | ⟨g', o', cur, h0, hg, h3, h4, h5, h6⟩
  · rw [h0] at ha; cases ha
  · obtain ⟨rfl, rfl⟩ : g = g' ∧ o = o' := by
      rw [h0] at ha
      injection ha with ha
      injection ha with e1 e2
      exact ⟨e1.symm, e2.symm⟩
    refine .inr ⟨g, o, _, h0, heap_setCell_same W g (o + j) _ _ _ hg, h3, h4, fun hl => ⟨(h5 hl).1, by simpa using (h5 hl).2⟩, fun i u hu => ?_⟩
    rw [List.getElem?_set] at hu
    rw [Array.getElem?_setIfInBounds]
    by_cases e : j = i
    · subst e
      rw [if_pos rfl] at hu
      split at hu
      · rename_i hl
        have hc := h6 j (xs[j]) (List.getElem?_eq_getElem hl)
        have := (Array.getElem?_eq_some_iff.1 hc).1
        rw [if_pos rfl, if_pos this]
        exact hu
      · cases hu
    · rw [if_neg e] at hu
      rw [if_neg (by omega)]
      exact h6 i u hu
end
theorem RowK.below {W U : World} {e : TypeId} {k n cap : Nat} {ao : Option Addr} {xs : List Value} (h : RowK W e k ao n cap xs) (hB : Below W.heap.size W U) : RowK U e k ao n cap xs := h.kept fun a ha => hB.block _ (h.lt ha)
section
variable {P : Program} (w : World)
theorem run_append_rowk (t ty e : TypeId) (i : TypeInfo) (z : Value) (k bytes : Nat) (ht : P.underlying t = some (.slice e)) (hi : P.info? e = some i) (hz : i.zero = some z)
    (hsize : i.size = k) (hby : i.bytes = bytes) (hzs : z.cells.size = k) (hk : 0 < k)
    (ao : Option Addr) (n cap : Nat) (xs : List Value) (h : RowK w e k ao n cap xs)
    (a : Addr) (c : Nat) (news : List Value) (hl : news.length = k) (hnews : ∀ j u, news[j]? = some u → w.cell? (a.add j) = some u) (h1 : ∀ u ∈ news, u.oneCell' = true)
    (h63 : n + 1 ≤ maxLen) (hbytes : (n + 1) * bytes ≤ 140737488355328) :
    ∃ g o cap' w', (Builtin.append_ #[t, t] ty #[.slice ao n cap, .slice (some a) 1 c]).run P w = .ok (.slice (some ⟨g, o, none⟩) (n + 1) cap') w' ∧ RowK w' e k (some ⟨g, o, none⟩) (n + 1) cap' (xs ++ news) ∧ w.grownBy w' (some g) ∧
      ((ao = some ⟨g, o, none⟩ ∧ n < cap) ∨ w.heap.size ≤ g) := by
  subst hsize
  subst hby
  have hlen : (xs ++ news).length = (n + 1) * i.size := by rw [List.length_append, h.1, hl, Nat.succ_mul]
  have hl' : news.length = 1 * i.size := by rw [hl, Nat.one_mul]
  have grown : ∀ (old : Nat), old < n + 1 →
      RowK (w.drew.alloc (.cells (xs.toArray ++ news.toArray ++ Builtin.zeroCells z.cells (grownCap w (n + 1) old e - (n + 1))) e)) e i.size
        (some ⟨w.heap.size, 0, none⟩) (n + 1) (grownCap w (n + 1) old e) (xs ++ news) ∧
      w.grownBy (w.drew.alloc (.cells (xs.toArray ++ news.toArray ++ Builtin.zeroCells z.cells (grownCap w (n + 1) old e - (n + 1))) e)) (some w.heap.size) := by
    intro old ho
    have hge := grownCap_ge w (n + 1) old e
    have hcm : grownCap w (n + 1) old e ≤ maxLen := grownCap_le_maxLen w (n + 1) old e h63
    refine ⟨⟨hlen, .inr ⟨w.heap.size, 0, _, rfl, heap_alloc_new w.drew _, hge, hcm, fun _ => ⟨rfl, ?_⟩, fun j u hu => ?_⟩⟩, ⟨rfl, rfl, rfl, by simp, fun k hk _ => Below.heap_alloc w.drew _ k hk⟩⟩
    · simp only [Array.size_append, List.size_toArray, size_zeroCells, hzs]
      rw [h.1, hl, Nat.sub_mul, Nat.succ_mul]
      have := Nat.mul_le_mul_right i.size hge
      rw [Nat.succ_mul] at this
      omega
    · rw [Nat.zero_add, Array.getElem?_append_left (by have := (List.getElem?_eq_some_iff.1 hu).1; simpa using this)]
      simpa using hu
  rcases h.2 with ⟨rfl, rfl, rfl⟩ | ⟨g, o, cur, rfl, hg, hnc, hcm, hroom, hcs⟩
  · have hx : xs = [] := List.eq_nil_of_length_eq_zero (by simpa using h.1)
    subst hx
    have hr := run_append_nil (P := P) w t ty e i z ht hi hz a 1 c news hl' hnews (by omega) (by omega) (by have hb := hbytes; simp only [Nat.zero_add] at hb; omega)
    have hgr := grown 0 (by omega)
    simp only [Nat.zero_add, List.nil_append, Array.empty_append] at hgr ⊢
    exact ⟨_, _, _, _, hr, hgr.1, hgr.2, .inr (Nat.le_refl _)⟩
  · by_cases hrm : n < cap
    · obtain ⟨rfl, hcz⟩ := hroom hrm
      have hle : (n + 1) * i.size ≤ cur.size := Nat.le_trans (Nat.mul_le_mul_right _ hrm) hcz
      rw [Nat.succ_mul] at hle
      have hfit : n * i.size + news.length ≤ cur.size := by rw [hl]; exact hle
      have hr := run_append_room (P := P) w t ty e i ht hi g n cap cur hg a 1 c news hl' hnews h1 hrm hfit
      have htk : cur.toList.take (n * i.size) = xs := by
        apply List.ext_getElem?
        intro j
        rw [List.getElem?_take]
        split
        · rename_i hj
          have : j < xs.length := by rw [h.1]; exact hj
          have h2 := hcs j xs[j] (List.getElem?_eq_getElem this)
          rw [Nat.zero_add] at h2
          rw [List.getElem?_eq_getElem this]
          simpa using h2
        · rw [List.getElem?_eq_none (by rw [h.1]; omega)]
      refine ⟨g, 0, cap, _, hr, ⟨hlen, .inr ⟨g, 0, _, rfl, setRow_heap w g cur _ e _ hg, hrm, hcm, fun _ => ⟨rfl, ?_⟩, fun j u hu => ?_⟩⟩, ⟨rfl, rfl, rfl, by simp, fun k _ hk => setRow_other w g k _ (fun e => hk (by rw [e]))⟩, .inl ⟨rfl, hrm⟩⟩
      · simp only [List.size_toArray, List.length_append, List.length_take, List.length_drop, Array.length_toList]
        omega
      · rw [Nat.zero_add, List.getElem?_toArray, htk, List.getElem?_append_left (by exact (List.getElem?_eq_some_iff.1 hu).1)]
        exact hu
    · have holds : ∀ j u, xs[j]? = some u → w.cell? ((⟨g, o, none⟩ : Addr).add j) = some u := fun j u hu => by
        rw [Addr.add_mid]
        exact cell_in hg (hcs j u hu)
      have hr := run_append_grow (P := P) w t ty e i z ht hi hz ⟨g, o, none⟩ n cap xs h.1 holds a 1 c news hl' hnews (by omega) (by unfold maxLen at h63; omega) (growslice_fits (by omega) hbytes)
      have hgr := grown cap (by omega)
      exact ⟨_, _, _, _, hr, hgr.1, hgr.2, .inr (Nat.le_refl _)⟩
end
theorem wpList_append_rowk {P : Program} {ops : Array Oper} {o : Oper} {rest : List Oper} {Q : Exit → Act → World → Prop} {a : Act} {w : World}
    (hgd : Region.wanted o (yielded ops a.tmps) = true) (s x : Operand) (t : TypeId) (hop : o.op = Op.call { callee := Callee.builtin Builtin.append, args := #[s, x], argTypes := #[t, t] })
    (e : TypeId) (i : TypeInfo) (z : Value) (k bytes : Nat) (ht : P.underlying t = some (.slice e)) (hi : P.info? e = some i) (hz : i.zero = some z)
    (hsize : i.size = k) (hby : i.bytes = bytes) (hzs : z.cells.size = k) (hk : 0 < k)
    (ao : Option Addr) (n cap : Nat) (xs : List Value) (hs : a.eval s = .slice ao n cap) (h : RowK w e k ao n cap xs)
    (ad : Addr) (c : Nat) (news : List Value) (hx : a.eval x = .slice (some ad) 1 c) (hl : news.length = k) (hnews : ∀ j u, news[j]? = some u → w.cell? (ad.add j) = some u) (h1 : ∀ u ∈ news, u.oneCell' = true)
    (h63 : n + 1 ≤ maxLen) (hbytes : (n + 1) * bytes ≤ 140737488355328)
    (hK : ∀ g o' cap' w', RowK w' e k (some ⟨g, o', none⟩) (n + 1) cap' (xs ++ news) → w.grownBy w' (some g) → ((ao = some ⟨g, o', none⟩ ∧ n < cap) ∨ w.heap.size ≤ g) → wpList P ops Q rest (a.put o.dst (.slice (some ⟨g, o', none⟩) (n + 1) cap')) w') :
    wpList P ops Q (o :: rest) a w := by
  refine wpList_step fun K hKK => ?_
  rw [if_pos hgd]
  obtain ⟨g, o', cap', w', hrun, h2, h3, h4⟩ := run_append_rowk (P := P) w t o.type e i z k bytes ht hi hz hsize hby hzs hk ao n cap xs h ad c news hl hnews h1 h63 hbytes
  unfold Oper.wp
  simp [execOp, hop, resolve, invoke, builtin, hs, hx, hrun, Result.andThen]
  exact hKK _ _ (hK g o' cap' w' h2 h3 h4)
end Go.Proofs.YtlkiigoblkfkpaaGreatDoor

