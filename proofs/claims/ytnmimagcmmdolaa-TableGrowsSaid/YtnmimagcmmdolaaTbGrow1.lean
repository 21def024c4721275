/-
  THE ROWS THAT TableGrows GOES THROUGH: a slice of ints that is cut and joined anew; the law's own cells.
-/
import Derived.Test.YtnmimagcmmdolaaTbGrowM
import Derived.Test.YtnmimagcmmdolaaHeldR
import Derived.Test.YtnmimagcmmdolaaTbPlays
namespace Go.Proofs.Ytnmimagcmmdolaa
open Go.RowKit Go.Shelf
set_option linter.unusedVariables false
set_option linter.unusedSimpArgs false

/-- Cells that an append may read: nowhere, if there is none. -/
def SrcK (W : World) (ao : Option Addr) (n : Nat) (xs : List Value) : Prop := xs.length = n ∧ ∃ g o, (0 < n → ao = some ⟨g, o, none⟩) ∧ ∀ j u, xs[j]? = some u → W.cell? ⟨g, o + j, none⟩ = some u
section
variable {P : Program} (w : World)
/-- append(append(nil, xs...), ys...), its second part. -/
theorem run_append_more (t ty e : TypeId) (i : TypeInfo) (z : Value) (bytes : Nat) (ht : P.underlying t = some (.slice e)) (hi : P.info? e = some i) (hz : i.zero = some z)
    (hsize : i.size = 1) (hby : i.bytes = bytes) (hzs : z.cells.size = 1)
    (g1 : Nat) (n cap : Nat) (xs : List Value) (h : RowK w e 1 (some ⟨g1, 0, none⟩) n cap xs)
    (sa : Option Addr) (m c : Nat) (ys : List Value) (hs : SrcK w sa m ys) (hm : m ≤ c) (h1 : ∀ u ∈ ys, u.oneCell' = true)
    (h63 : n + m ≤ maxLen) (hbytes : (n + m) * bytes ≤ 140737488355328) :
    ∃ g o cap' w', (Builtin.append_ #[t, t] ty #[.slice (some ⟨g1, 0, none⟩) n cap, .slice sa m c]).run P w = .ok (.slice (some ⟨g, o, none⟩) (n + m) cap') w' ∧ RowK w' e 1 (some ⟨g, o, none⟩) (n + m) cap' (xs ++ ys) ∧ w.grownBy w' (some g) ∧
      (g = g1 ∨ w.heap.size ≤ g) := by
  subst hby
  obtain ⟨hyl, sg, so, hsa, hsc⟩ := hs
  have hlen : (xs ++ ys).length = (n + m) * 1 := by rw [List.length_append, h.1, hyl]; omega
  rcases h.2 with ⟨h0, _⟩ | ⟨g, o, cur, h0, hg, hnc, hcm, hroom, hcs⟩
  · cases h0
  injection h0 with h0
  injection h0 with h0 h00
  subst h0
  subst h00
  by_cases hm0 : m = 0
  · subst hm0
    obtain rfl := List.eq_nil_of_length_eq_zero hyl
    refine ⟨g1, 0, cap, w, ?_, by simpa using h, ⟨rfl, rfl, rfl, Nat.le_refl _, fun _ _ _ => rfl⟩, .inl rfl⟩
    cases sa <;> simp [Builtin.append_, run_underlying ht, sizeOf, typeInfo, hi, Builtin.lenOf, Builtin.firstCells, loadCells, loadCellsFrom, storeCells, hnc]
  · have hsa' := hsa (by omega)
    subst hsa'
    have hnews : ∀ j u, ys[j]? = some u → w.cell? ((⟨sg, so, none⟩ : Addr).add j) = some u := fun j u hu => by
      rw [Addr.add_mid]; exact hsc j u hu
    by_cases hrm : n + m ≤ cap
    · obtain ⟨_, hcz⟩ := hroom (by omega)
      have hfit : n * i.size + ys.length ≤ cur.size := by rw [hsize, hyl]; omega
      have hr := run_append_room (P := P) w t ty e i ht hi g1 n cap cur hg ⟨sg, so, none⟩ m c ys (by rw [hsize, hyl]; omega) hnews h1 hrm hfit
      have htk : cur.toList.take (n * i.size) = xs := by
        apply List.ext_getElem?
        intro j
        rw [List.getElem?_take]
        split
        · rename_i hj
          have hjl : j < xs.length := by rw [h.1, ← hsize]; exact hj
          have h2 := hcs j xs[j] (List.getElem?_eq_getElem hjl)
          rw [Nat.zero_add] at h2
          rw [List.getElem?_eq_getElem hjl]
          simpa using h2
        · rw [List.getElem?_eq_none (by rw [h.1, ← hsize]; omega)]
      refine ⟨g1, 0, cap, _, hr, ⟨hlen, .inr ⟨g1, 0, _, rfl, setRow_heap w g1 cur _ e _ hg, hrm, hcm, fun _ => ⟨rfl, ?_⟩, fun j u hu => ?_⟩⟩, ⟨rfl, rfl, rfl, by simp, fun k _ hk => setRow_other w g1 k _ (fun e => hk (by rw [e]))⟩, .inl rfl⟩
      · simp only [List.size_toArray, List.length_append, List.length_take, List.length_drop, Array.length_toList]
        omega
      · rw [Nat.zero_add, List.getElem?_toArray, htk, List.getElem?_append_left (by exact (List.getElem?_eq_some_iff.1 hu).1)]
        exact hu
    · have holds : ∀ j u, xs[j]? = some u → w.cell? ((⟨g1, 0, none⟩ : Addr).add j) = some u := fun j u hu => by
        rw [Addr.add_mid]
        exact cell_in hg (hcs j u hu)
      have hr := run_append_grow (P := P) w t ty e i z ht hi hz ⟨g1, 0, none⟩ n cap xs (by rw [h.1, hsize]) holds ⟨sg, so, none⟩ m c ys (by rw [hsize, hyl]; omega) hnews (by omega) (by unfold maxLen at h63; omega) (growslice_fits (by omega) hbytes)
      have hge := grownCap_ge w (n + m) cap e
      refine ⟨w.heap.size, 0, _, _, hr, ⟨hlen, .inr ⟨w.heap.size, 0, _, rfl, heap_alloc_new w.drew _, hge, grownCap_le_maxLen w (n + m) cap e h63, fun _ => ⟨rfl, ?_⟩, fun j u hu => ?_⟩⟩, ⟨rfl, rfl, rfl, by simp, fun k hk _ => Below.heap_alloc w.drew _ k hk⟩, .inr (Nat.le_refl _)⟩
      · simp only [Array.size_append, List.size_toArray, size_zeroCells, hzs]
        rw [h.1, hyl]
        omega
      · rw [Nat.zero_add, Array.getElem?_append_left (by have := (List.getElem?_eq_some_iff.1 hu).1; simpa using this)]
        simpa using hu
/-- A copy of what an append may read. -/
theorem run_append_first (t ty e : TypeId) (i : TypeInfo) (z : Value) (bytes : Nat) (ht : P.underlying t = some (.slice e)) (hi : P.info? e = some i) (hz : i.zero = some z)
    (hsize : i.size = 1) (hby : i.bytes = bytes) (hzs : z.cells.size = 1)
    (ao : Option Addr) (n cap : Nat) (xs : List Value) (hs : SrcK w ao n xs) (hn : 0 < n)
    (h63 : n ≤ maxLen) (hbytes : n * bytes ≤ 140737488355328) :
    ∃ cap' w', (Builtin.append_ #[t, t] ty #[.slice none 0 0, .slice ao n cap]).run P w = .ok (.slice (some ⟨w.heap.size, 0, none⟩) n cap') w' ∧ RowK w' e 1 (some ⟨w.heap.size, 0, none⟩) n cap' xs ∧ Below w.heap.size w w' := by
  subst hby
  obtain ⟨hyl, sg, so, hsa, hsc⟩ := hs
  obtain rfl := hsa hn
  have hr := run_append_nil (P := P) w t ty e i z ht hi hz ⟨sg, so, none⟩ n cap xs (by rw [hsize, hyl]; omega) (fun j u hu => by rw [Addr.add_mid]; exact hsc j u hu) hn (by unfold maxLen at h63; omega) (by omega)
  refine ⟨_, _, hr, ⟨by omega, .inr ⟨w.heap.size, 0, _, rfl, heap_alloc_new w.drew _, grownCap_ge w n 0 e, grownCap_le_maxLen w n 0 e h63, fun _ => ⟨rfl, ?_⟩, fun j u hu => ?_⟩⟩, (Below.refl _ w).drew.alloc (Nat.le_refl _) _⟩
  · simp only [Array.size_append, List.size_toArray, size_zeroCells, hzs]
    have := grownCap_ge w n 0 e
    omega
  · rw [Nat.zero_add, Array.getElem?_append_left (by have := (List.getElem?_eq_some_iff.1 hu).1; simpa using this)]
    simpa using hu
end
section
variable {P : Program} {ops : Array Oper} {o : Oper} {a : Act} {w : World} {K : Act → World → Prop} {Q : Exit → Act → World → Prop} {E : Prop}
theorem step_append_first (hgd : o.guard = none) (x : Operand) (t : TypeId) (hop : o.op = Op.call { callee := Callee.builtin Builtin.append, args := #[.const (.slice none 0 0), x], argTypes := #[t, t] })
    (e : TypeId) (i : TypeInfo) (z : Value) (bytes : Nat) (ht : P.underlying t = some (.slice e)) (hi : P.info? e = some i) (hz : i.zero = some z)
    (hsize : i.size = 1) (hby : i.bytes = bytes) (hzs : z.cells.size = 1)
    (ao : Option Addr) (n cap : Nat) (xs : List Value) (hx : a.eval x = .slice ao n cap) (hs : SrcK w ao n xs) (hn : 0 < n)
    (h63 : n ≤ maxLen) (hbytes : n * bytes ≤ 140737488355328)
    (hK : ∀ cap' w', RowK w' e 1 (some ⟨w.heap.size, 0, none⟩) n cap' xs → Below w.heap.size w w' → K (a.put o.dst (.slice (some ⟨w.heap.size, 0, none⟩) n cap')) w') :
    if Region.wanted o (yielded ops a.tmps) = true then Oper.wp P o a w K Q else E := by
  have hw : Region.wanted o (yielded ops a.tmps) = true := by simp [Region.wanted, hgd]
  rw [if_pos hw]
  obtain ⟨cap', w', hrun, h2, h3⟩ := run_append_first (P := P) w t o.type e i z bytes ht hi hz hsize hby hzs ao n cap xs hs hn h63 hbytes
  unfold Oper.wp
  have hs : a.eval (.const (.slice none 0 0)) = .slice none 0 0 := rfl
  simp [execOp, hop, resolve, invoke, builtin, hs, hx, hrun, Result.andThen]
  exact hK cap' w' h2 h3
theorem step_append_more (hgd : o.guard = none) (s x : Operand) (t : TypeId) (hop : o.op = Op.call { callee := Callee.builtin Builtin.append, args := #[s, x], argTypes := #[t, t] })
    (e : TypeId) (i : TypeInfo) (z : Value) (bytes : Nat) (ht : P.underlying t = some (.slice e)) (hi : P.info? e = some i) (hz : i.zero = some z)
    (hsize : i.size = 1) (hby : i.bytes = bytes) (hzs : z.cells.size = 1)
    (g1 : Nat) (n cap : Nat) (xs : List Value) (hsv : a.eval s = .slice (some ⟨g1, 0, none⟩) n cap) (h : RowK w e 1 (some ⟨g1, 0, none⟩) n cap xs)
    (sa : Option Addr) (m c : Nat) (ys : List Value) (hx : a.eval x = .slice sa m c) (hs : SrcK w sa m ys) (hm : m ≤ c) (h1 : ∀ u ∈ ys, u.oneCell' = true)
    (h63 : n + m ≤ maxLen) (hbytes : (n + m) * bytes ≤ 140737488355328)
    (hK : ∀ g o' cap' w', RowK w' e 1 (some ⟨g, o', none⟩) (n + m) cap' (xs ++ ys) → w.grownBy w' (some g) → (g = g1 ∨ w.heap.size ≤ g) → K (a.put o.dst (.slice (some ⟨g, o', none⟩) (n + m) cap')) w') :
    if Region.wanted o (yielded ops a.tmps) = true then Oper.wp P o a w K Q else E := by
  have hw : Region.wanted o (yielded ops a.tmps) = true := by simp [Region.wanted, hgd]
  rw [if_pos hw]
  obtain ⟨g, o', cap', w', hrun, h2, h3, h4⟩ := run_append_more (P := P) w t o.type e i z bytes ht hi hz hsize hby hzs g1 n cap xs h sa m c ys hs hm h1 h63 hbytes
  unfold Oper.wp
  simp [execOp, hop, resolve, invoke, builtin, hsv, hx, hrun, Result.andThen]
  exact hK g o' cap' w' h2 h3 h4
end
/-- The law's own cells: the look, how often, the answer, the table, the rows to come. -/
structure GrC (w : World) (n0 tb : Nat) (q : RowN) (lv : Int) (rows : List Nat) (S : Nat → Prop) (U : World) : Prop where
  bel : Below w.heap.size w U
  hn : n0 = w.heap.size
  sz : n0 + 8 ≤ U.heap.size
  lk : U.heap[n0]? = some (.cells (rowC q) 34 (0, 0))
  lv : U.cell? ⟨n0 + 1, 0, none⟩ = some (.int .i64 lv)
  res : U.heap[n0 + 2]? = some (.cells #[.bool false] 4 (0, 0))
  tc : U.cell? ⟨n0 + 6, 0, none⟩ = some (tabP tb)
  rc : ∃ ao cap, U.heap[n0 + 7]? = some (.cells #[.slice ao rows.length cap] 41 (0, 0)) ∧ RowK U 3 1 ao rows.length cap (intsC rows) ∧ ∀ a, ao = some a → n0 + 8 ≤ a.block ∧ ¬ S a.block
  hS : ∀ j, S j → (n0 + 3 ≤ j ∧ j < n0 + 6) ∨ n0 + 8 ≤ j
/-- Somebody has turned his own blocks. -/
theorem GrC.turn {w : World} {n0 tb : Nat} {q : RowN} {lv : Int} {rows : List Nat} {S S' X : Nat → Prop} {U V : World} (h : GrC w n0 tb q lv rows S U) (hT : Turned X U V)
    (hX : ∀ j, X j → (n0 + 3 ≤ j ∧ j < n0 + 6) ∨ n0 + 8 ≤ j) (hXS : ∀ j, X j → S j ∨ ∀ ao cap, U.heap[n0 + 7]? = some (.cells #[.slice ao rows.length cap] 41 (0, 0)) → ∀ a, ao = some a → a.block ≠ j) (hS' : ∀ j, S' j → S j ∨ U.heap.size ≤ j) : GrC w n0 tb q lv rows S' V := by
  have hn := h.hn
  have hsz := h.sz
  have hs := hT.size
  have key : ∀ j, j < n0 + 3 ∨ j = n0 + 6 ∨ j = n0 + 7 → V.heap[j]? = U.heap[j]? := fun j hj => hT.block j (by omega) (fun hx => by have := hX j hx; omega)
  obtain ⟨ao, cap, c1, c2, c3⟩ := h.rc
  refine ⟨h.bel.trans (hT.below h.bel.size (fun j hj => by have := hX j hj; omega)), hn, by omega, (key _ (by omega)).trans h.lk, (World.cell?_of_block (a := ⟨n0 + 1, 0, none⟩) (key (n0 + 1) (by omega))).trans h.lv, (key _ (by omega)).trans h.res,
    (World.cell?_of_block (a := ⟨n0 + 6, 0, none⟩) (key (n0 + 6) (by omega))).trans h.tc, ⟨ao, cap, (key _ (by omega)).trans c1, c2.kept fun a ha => hT.block _ (c2.lt ha) fun hx => ?_, fun a ha => ⟨(c3 a ha).1, fun hj => ?_⟩⟩, fun j hj => ?_⟩
  · rcases hXS _ hx with h5 | h5
    · exact (c3 a ha).2 h5
    · exact h5 ao cap c1 a ha rfl
  · rcases hS' _ hj with h5 | h5
    · exact (c3 a ha).2 h5
    · have := c2.lt ha; omega
  · rcases hS' _ hj with h5 | h5
    · exact h.hS j h5
    · omega
theorem GrC.below {w : World} {n0 tb : Nat} {q : RowN} {lv : Int} {rows : List Nat} {S : Nat → Prop} {U V : World} (h : GrC w n0 tb q lv rows S U) (hB : Below U.heap.size U V) : GrC w n0 tb q lv rows S V :=
  h.turn (X := fun _ => False) (Turned.of_below hB) (fun j hj => hj.elim) (fun j hj => hj.elim) (fun j hj => .inl hj)
theorem GrC.look {w : World} {n0 tb : Nat} {q : RowN} {lv : Int} {rows : List Nat} {S : Nat → Prop} {U : World} (h : GrC w n0 tb q lv rows S U) : U.cell? ⟨n0, 0, none⟩ = some (.int .u32 (q.1 : Int)) ∧ U.cell? ⟨n0, 1, none⟩ = some (.int .u32 (q.2.1 : Int)) ∧ U.cell? ⟨n0, 2, none⟩ = some (.int .u32 (q.2.2 : Int)) :=
  ⟨cell_in h.lk rfl, cell_in h.lk rfl, cell_in h.lk rfl⟩
/-- News, and turns of what is no cells. -/
theorem GrC.own {w : World} {n0 tb : Nat} {q : RowN} {lv : Int} {rows : List Nat} {S : Nat → Prop} {U V : World} (h : GrC w n0 tb q lv rows S U) {row : Option Nat} (hg : U.grownBy V row) (hr : ∀ r, row = some r → n0 + 8 ≤ r ∧ ∃ o : Obj, U.heap[r]? = some o ∧ o.isCells = false) : GrC w n0 tb q lv rows S V := by
  refine h.turn (X := fun j => row = some j) ⟨hg.os, hg.tape, hg.output, hg.size, fun k hk hn => hg.block k hk (fun e => hn e.symm)⟩ (fun j hj => .inr (hr j hj).1) (fun j hj => .inr fun ao cap hc a ha e => ?_) (fun j hj => .inl hj)
  obtain ⟨o, ho, hoc⟩ := (hr j hj).2
  obtain ⟨ao', cap', c1, c2, c3⟩ := h.rc
  rw [c1] at hc
  injection hc with hc
  injection hc with hc
  simp only [Array.mk.injEq, List.cons.injEq, Value.slice.injEq, and_true, true_and] at hc
  obtain ⟨cur, hcur⟩ := c2.type (hc.1.trans ha)
  rw [e, ho] at hcur
  injection hcur with hcur
  rw [hcur] at hoc
  cases hoc
/-- Other rows are to come. -/
theorem GrC.put {w : World} {n0 tb : Nat} {q : RowN} {lv : Int} {rows : List Nat} {S X : Nat → Prop} {U V : World} (h : GrC w n0 tb q lv rows S U) (hT : Turned X U V) (hX : ∀ j, X j → n0 + 8 ≤ j)
    (rows' : List Nat) (n' g o cap' : Nat) (hn' : rows'.length = n') (hR : RowK V 3 1 (some ⟨g, o, none⟩) n' cap' (intsC rows')) (hg : n0 + 8 ≤ g) (hgS : ¬ S g) :
    ((∃ v, V.cell? ⟨n0 + 7, 0, none⟩ = some v) ∧ V.frozen? ⟨n0 + 7, 0, none⟩ = false) ∧ GrC w n0 tb q lv rows' S (V.setCell ⟨n0 + 7, 0, none⟩ (.slice (some ⟨g, o, none⟩) n' cap')) ∧ Turned (fun j => X j ∨ j = n0 + 7) U (V.setCell ⟨n0 + 7, 0, none⟩ (.slice (some ⟨g, o, none⟩) n' cap')) := by
  subst hn'
  have hn := h.hn
  have hsz := h.sz
  have hs := hT.size
  have key : ∀ j, j < n0 + 3 ∨ j = n0 + 6 ∨ j = n0 + 7 → V.heap[j]? = U.heap[j]? := fun j hj => hT.block j (by omega) (fun hx => by have := hX j hx; omega)
  obtain ⟨ao, cap, c1, c2, c3⟩ := h.rc
  have k7 := (key (n0 + 7) (by omega)).trans c1
  have hTu : Turned (fun j => X j ∨ j = n0 + 7) U (V.setCell ⟨n0 + 7, 0, none⟩ (.slice (some ⟨g, o, none⟩) rows'.length cap')) := (hT.mono (fun j hj => .inl hj)).trans (Turned.set (a := ⟨n0 + 7, 0, none⟩) (.inr rfl) _)
  have key2 : ∀ j, j < n0 + 3 ∨ j = n0 + 6 → (V.setCell ⟨n0 + 7, 0, none⟩ (.slice (some ⟨g, o, none⟩) rows'.length cap')).heap[j]? = U.heap[j]? := fun j hj => (Below.heap_setCell _ _ _ _ (show j ≠ n0 + 7 by omega)).trans (key j (by omega))
  have hs2 := hTu.size
  have hTb := hTu.below h.bel.size (fun j hj => by
    rcases hj with hj | hj
    · have := hX j hj; omega
    · omega)
  refine ⟨⟨⟨_, cell_in k7 rfl⟩, free_in k7 0⟩, ⟨h.bel.trans hTb, hn, by omega, (key2 _ (by omega)).trans h.lk, (World.cell?_of_block (a := ⟨n0 + 1, 0, none⟩) (key2 (n0 + 1) (by omega))).trans h.lv, (key2 _ (by omega)).trans h.res,
    (World.cell?_of_block (a := ⟨n0 + 6, 0, none⟩) (key2 (n0 + 6) (by omega))).trans h.tc, ⟨some ⟨g, o, none⟩, cap', heap_setCell_same V (n0 + 7) 0 _ _ _ k7, hR.kept fun a ha => Below.heap_setCell _ _ _ _ ?_, fun a ha => by injection ha with ha; subst ha; exact ⟨hg, hgS⟩⟩, h.hS⟩, hTu⟩
  injection ha with ha
  subst ha
  show g ≠ n0 + 7
  omega
/-- One row more is to come. -/
theorem GrC.more {w : World} {n0 tb : Nat} {q : RowN} {lv : Int} {rows : List Nat} {S : Nat → Prop} {U : World} (h : GrC w n0 tb q lv rows S U) (hSl : ∀ j, S j → j < U.heap.size) (x : Nat) :
    ∃ ao cap, U.cell? ⟨n0 + 7, 0, none⟩ = some (.slice ao rows.length cap) ∧ RowK (U.alloc (.cells #[.int .i64 (x : Int)] 3)) 3 1 ao rows.length cap (intsC rows) ∧
      (∀ j u, ([.int .i64 (x : Int)] : List Value)[j]? = some u → (U.alloc (.cells #[.int .i64 (x : Int)] 3)).cell? ((⟨U.heap.size, 0, none⟩ : Addr).add j) = some u) ∧
      ∀ g o' cap' w9, RowK w9 3 1 (some ⟨g, o', none⟩) (rows.length + 1) cap' (intsC rows ++ [.int .i64 (x : Int)]) → (U.alloc (.cells #[.int .i64 (x : Int)] 3)).grownBy w9 (some g) → ((ao = some ⟨g, o', none⟩ ∧ rows.length < cap) ∨ (U.alloc (.cells #[.int .i64 (x : Int)] 3)).heap.size ≤ g) →
        ((∃ v, w9.cell? ⟨n0 + 7, 0, none⟩ = some v) ∧ w9.frozen? ⟨n0 + 7, 0, none⟩ = false) ∧ GrC w n0 tb q lv (rows ++ [x]) S (w9.setCell ⟨n0 + 7, 0, none⟩ (.slice (some ⟨g, o', none⟩) (rows.length + 1) cap')) ∧ U.heap.size ≤ (w9.setCell ⟨n0 + 7, 0, none⟩ (.slice (some ⟨g, o', none⟩) (rows.length + 1) cap')).heap.size ∧
          ∀ j, S j → (w9.setCell ⟨n0 + 7, 0, none⟩ (.slice (some ⟨g, o', none⟩) (rows.length + 1) cap')).heap[j]? = U.heap[j]? := by
  obtain ⟨ao, cap, c1, c2, c3⟩ := h.rc
  have hba := (Below.refl U.heap.size U).alloc (Nat.le_refl _) (.cells #[.int .i64 (x : Int)] 3)
  have hsa : (U.alloc (.cells #[.int .i64 (x : Int)] 3)).heap.size = U.heap.size + 1 := World.size_alloc _ _
  refine ⟨ao, cap, cell_in c1 rfl, c2.below hba, fun j u hu => ?_, fun g o' cap' w9 h1 h2 h3 => ?_⟩
  · rw [Addr.add_mid, Nat.zero_add]
    exact cell_in (heap_alloc_new U _) (by simpa using hu)
  · have hgB : n0 + 8 ≤ g ∧ ¬ S g := by
      rcases h3 with ⟨h4, _⟩ | h4
      · exact c3 _ h4
      · have := h.sz
        exact ⟨by omega, fun hj => by have := hSl g hj; omega⟩
    have hT : Turned (fun j => j = g) U w9 := (Turned.of_below hba).trans (Turned.grown h2 (.inl rfl))
    obtain ⟨p1, p2, p3⟩ := h.put hT (fun j hj => by subst hj; exact hgB.1) (rows ++ [x]) (rows.length + 1) g o' cap' (by rw [List.length_append]; rfl) (by
      have e : intsC (rows ++ [x]) = intsC rows ++ [.int .i64 (x : Int)] := by unfold intsC; simp
      rw [e]
      exact h1) hgB.1 hgB.2
    refine ⟨p1, p2, p3.size, fun j hj => p3.block j (hSl j hj) (fun e => ?_)⟩
    rcases e with e | e
    · subst e; exact hgB.2 hj
    · have := h.hS j hj
      omega
/-- The same, in a round: how many rounds, the last number given, too. -/
structure RdC (w : World) (n0 tb mb : Nat) (q : RowN) (lv : Int) (rows : List Nat) (k L : Nat) (S : Nat → Prop) (U : World) : Prop where
  c : GrC w n0 tb q lv rows (fun j => S j ∨ j = mb + 5 ∨ j = mb + 6) U
  k : U.heap[mb + 5]? = some (.cells #[.int .i64 (k : Int)] 3 (0, 0))
  l : U.heap[mb + 6]? = some (.cells #[.int .u32 (L : Int)] 32 (0, 0))
  d : ∀ j, S j → j ≠ mb + 5 ∧ j ≠ mb + 6
  z : mb + 7 ≤ U.heap.size
  m : n0 + 8 ≤ mb
section
variable {w : World} {n0 tb mb : Nat} {q : RowN} {lv : Int} {rows : List Nat} {k L : Nat} {S : Nat → Prop} {U V : World}
theorem RdC.turn (h : RdC w n0 tb mb q lv rows k L S U) (hT : Turned S U V) {S' : Nat → Prop} (hS' : ∀ j, S' j → S j ∨ U.heap.size ≤ j) : RdC w n0 tb mb q lv rows k L S' V := by
  have hs := hT.size
  have hz := h.z
  refine ⟨h.c.turn hT (fun j hj => h.c.hS j (.inl hj)) (fun j hj => .inl (.inl hj)) (fun j hj => ?_), (hT.block _ (by omega) fun hj => (h.d _ hj).1 rfl).trans h.k, (hT.block _ (by omega) fun hj => (h.d _ hj).2 rfl).trans h.l, fun j hj => ?_, by omega, h.m⟩
  · rcases hj with hj | hj
    · rcases hS' j hj with h5 | h5
      · exact .inl (.inl h5)
      · exact .inr h5
    · exact .inl (.inr hj)
  · rcases hS' j hj with h5 | h5
    · exact h.d j h5
    · omega
theorem RdC.below (h : RdC w n0 tb mb q lv rows k L S U) (hB : Below U.heap.size U V) : RdC w n0 tb mb q lv rows k L S V := h.turn (Turned.of_below hB) (fun j hj => .inl hj)
theorem RdC.last (h : RdC w n0 tb mb q lv rows k L S U) (hT : Turned (fun j => j = mb + 6) U V) {L' : Nat} (hl : V.heap[mb + 6]? = some (.cells #[.int .u32 (L' : Int)] 32 (0, 0))) : RdC w n0 tb mb q lv rows k L' S V := by
  have hs := hT.size
  have hz := h.z
  have hm := h.m
  refine ⟨h.c.turn hT (fun j hj => .inr (by omega)) (fun j hj => .inl (.inr (.inr hj))) (fun j hj => .inl hj), (hT.block _ (by omega) (by omega)).trans h.k, hl, h.d, by omega, hm⟩
theorem RdC.count (h : RdC w n0 tb mb q lv rows k L S U) : RdC w n0 tb mb q lv rows (k + 1) L S (U.setCell ⟨mb + 5, 0, none⟩ (.int .i64 ((k : Int) + 1))) ∧ Turned (fun j => j = mb + 5) U (U.setCell ⟨mb + 5, 0, none⟩ (.int .i64 ((k : Int) + 1))) := by
  have hT : Turned (fun j => j = mb + 5) U (U.setCell ⟨mb + 5, 0, none⟩ (.int .i64 ((k : Int) + 1))) := Turned.set (S := fun j => j = mb + 5) (a := ⟨mb + 5, 0, none⟩) rfl _
  have hs := hT.size
  have hz := h.z
  have hm := h.m
  have hh := heap_setCell_same U (mb + 5) 0 _ _ (.int .i64 ((k : Int) + 1)) h.k
  exact ⟨⟨h.c.turn hT (fun j hj => .inr (by omega)) (fun j hj => .inl (.inr (.inl hj))) (fun j hj => .inl hj), hh, (hT.block _ (by omega) (by omega)).trans h.l, h.d, by omega, hm⟩, hT⟩
theorem RdC.put (h : RdC w n0 tb mb q lv rows k L S U) (hB : Below U.heap.size U V) (rows' : List Nat) (n' g o cap' : Nat) (hn' : rows'.length = n') (hR : RowK V 3 1 (some ⟨g, o, none⟩) n' cap' (intsC rows')) (hg : U.heap.size ≤ g) (hSl : ∀ j, S j → j < U.heap.size) :
    ((∃ v, V.cell? ⟨n0 + 7, 0, none⟩ = some v) ∧ V.frozen? ⟨n0 + 7, 0, none⟩ = false) ∧ RdC w n0 tb mb q lv rows' k L S (V.setCell ⟨n0 + 7, 0, none⟩ (.slice (some ⟨g, o, none⟩) n' cap')) ∧ Turned (fun j => j = n0 + 7) U (V.setCell ⟨n0 + 7, 0, none⟩ (.slice (some ⟨g, o, none⟩) n' cap')) := by
  have hz := h.z
  have hm := h.m
  obtain ⟨p1, p2, p3⟩ := h.c.put (Turned.of_below hB (S := fun _ => False)) (fun j hj => hj.elim) rows' n' g o cap' hn' hR (by omega) (fun hj => by
    rcases hj with hj | hj
    · have := hSl _ hj; omega
    · omega)
  have p4 : Turned (fun j => j = n0 + 7) U (V.setCell ⟨n0 + 7, 0, none⟩ (.slice (some ⟨g, o, none⟩) n' cap')) := p3.mono (fun j hj => hj.elim False.elim id)
  have hs := p4.size
  exact ⟨p1, ⟨p2, (p4.block _ (by omega) (by omega)).trans h.k, (p4.block _ (by omega) (by omega)).trans h.l, h.d, by omega, hm⟩, p4⟩
theorem RdC.own (h : RdC w n0 tb mb q lv rows k L S U) {row : Option Nat} (hg : U.grownBy V row) (hr : ∀ r, row = some r → mb + 7 ≤ r ∧ ∃ o : Obj, U.heap[r]? = some o ∧ o.isCells = false) : RdC w n0 tb mb q lv rows k L S V := by
  have hz := h.z
  have hm := h.m
  have hs := hg.size
  exact ⟨h.c.own hg (fun r e => ⟨by have := (hr r e).1; omega, (hr r e).2⟩), (hg.block _ (by omega) (fun e => by have := (hr _ e.symm).1; omega)).trans h.k, (hg.block _ (by omega) (fun e => by have := (hr _ e.symm).1; omega)).trans h.l, h.d, by omega, hm⟩
end
/-- The new row, place by place. -/
def setN (x : RowN) (i v : Nat) : RowN := if i = 0 then (v, x.2.1, x.2.2) else if i = 1 then (x.1, v, x.2.2) else (x.1, x.2.1, v)
theorem rowC_set (x : RowN) (i v : Nat) (hi : i < 3) : (rowC x).setIfInBounds i (.int .u32 (v : Int)) = rowC (setN x i v) := by
  obtain rfl | rfl | rfl : i = 0 ∨ i = 1 ∨ i = 2 := by omega
  all_goals rfl
def mixS (q r : RowN) (L : Nat) : Nat → RowN × Nat
  | 0 => (r, L)
  | i + 1 => if atN q i = 0 then (setN (mixS q r L i).1 i ((mixS q r L i).2 + 1), (mixS q r L i).2 + 1) else mixS q r L i
theorem mixS_le (q r : RowN) (L : Nat) : ∀ i, (mixS q r L i).2 ≤ L + i
  | 0 => Nat.le_refl _
  | i + 1 => by
    have := mixS_le q r L i
    rw [mixS]
    split
    · show (mixS q r L i).2 + 1 ≤ _
      omega
    · omega
theorem mixS_three {q r : RowN} (L : Nat) (hf : fitB q r = true) : mixS q r L 3 = (newN q L, L + zsN q) := by
  obtain ⟨h0, h1, h2⟩ := fitB_iff.1 hf
  obtain ⟨a, b, c⟩ := q
  obtain ⟨x, y, z⟩ := r
  dsimp only at h0 h1 h2
  have e0 : atN (a, b, c) 0 = a := rfl
  have e1 : atN (a, b, c) 1 = b := rfl
  have e2 : atN (a, b, c) 2 = c := rfl
  simp only [mixS, e0, e1, e2]
  unfold newN zsN zN setN
  by_cases ha : a = 0 <;> by_cases hb : b = 0 <;> by_cases hc : c = 0 <;> simp only [ha, hb, hc, if_true, if_false, Nat.add_zero, Nat.zero_add, show ¬ (1 : Nat) = 0 by omega, show ¬ (2 : Nat) = 0 by omega, show ¬ (2 : Nat) = 1 by omega, false_or, true_or, Prod.mk.injEq, and_true, true_and] at h0 h1 h2 ⊢ <;> simp_all <;> omega
theorem run_cut_first (b off n cap k : Nat) (hk : k ≤ cap) (W : World) :
    (Instr.slice 41 (.slice (some ⟨b, off, none⟩) n cap) none (some (.int .i64 (k : Int))) none).run Try.prog W = .ok (.slice (some ⟨b, off, none⟩) k cap) W := by
  have h0 : (0 : Int) ≤ (k : Int) := by omega
  have h1 : (k : Int) ≤ (cap : Int) := by omega
  have hz : (sizeOf 3).run Try.prog W = .ok 1 W := by kernel_rfl
  simp [Instr.slice, run_underlying Try.underlying41, Instr.sliceBounds, Instr.sliceBound, asIntOf, h0, h1, hz, go_sem, Addr.add]
  exact fun h => absurd h (by omega)
theorem run_cut_rest (b off n cap k : Nat) (hk0 : 0 < k) (hk : k ≤ n) (hn : n ≤ cap) (W : World) :
    (Instr.slice 41 (.slice (some ⟨b, off, none⟩) n cap) (some (.int .i64 (k : Int))) none none).run Try.prog W = .ok (.slice (if cap = k then some ⟨b, off, none⟩ else some ⟨b, off + k, none⟩) (n - k) (cap - k)) W := by
  have h0 : (0 : Int) ≤ (k : Int) := by omega
  have h1 : (k : Int) ≤ (n : Int) := by omega
  have h2 : (n : Int) ≤ (cap : Int) := by omega
  have h3 : (k : Int) ≤ (cap : Int) := by omega
  have h4 : ¬ k = 0 := by omega
  have hz : (sizeOf 3).run Try.prog W = .ok 1 W := by kernel_rfl
  simp [Instr.slice, run_underlying Try.underlying41, Instr.sliceBounds, Instr.sliceBound, asIntOf, h0, h1, h2, h3, h4, hz, go_sem, Addr.add]
  exact fun h => absurd h (by omega)
end Go.Proofs.Ytnmimagcmmdolaa
