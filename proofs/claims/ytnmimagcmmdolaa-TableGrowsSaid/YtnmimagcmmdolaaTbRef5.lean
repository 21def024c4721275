/-
  CONTRACT OF the reference's Add.
-/
import Derived.Test.YtnmimagcmmdolaaTbRef2
import Derived.Test.YtnmimagcmmdolaaTbEnter
namespace Go.Proofs.Ytnmimagcmmdolaa
open Go.RowKit
set_option linter.unusedVariables false
set_option linter.unusedSimpArgs false

section
variable {P : Program} (w : World)
/-- A copy of a slice's elements, in a block of its own. -/
theorem run_append_copy (t ty e : TypeId) (i : TypeInfo) (z : Value) (k bytes : Nat) (ht : P.underlying t = some (.slice e)) (hi : P.info? e = some i) (hz : i.zero = some z)
    (hsize : i.size = k) (hby : i.bytes = bytes) (hzs : z.cells.size = k)
    (ao : Option Addr) (n cap : Nat) (xs : List Value) (h : RowK w e k ao n cap xs) (h0 : n = 0 → ao = none)
    (h63 : n ≤ maxLen) (hbytes : n * bytes ≤ 140737488355328) :
    ∃ ao' cap' w', (Builtin.append_ #[t, t] ty #[.slice none 0 0, .slice ao n cap]).run P w = .ok (.slice ao' n cap') w' ∧ RowK w' e k ao' n cap' xs ∧ Below w.heap.size w w' ∧ ∀ a, ao' = some a → w.heap.size ≤ a.block := by
  subst hsize
  subst hby
  rcases h.2 with ⟨rfl, rfl, rfl⟩ | ⟨g, o, cur, rfl, hg, hnc, hcm, hroom, hcs⟩
  · refine ⟨none, 0, w, ?_, ⟨h.1, .inl ⟨rfl, rfl, rfl⟩⟩, Below.refl _ _, fun a ha => by cases ha⟩
    simp [Builtin.append_, run_underlying ht, sizeOf, typeInfo, hi, Builtin.lenOf, Builtin.firstCells, storeCells]
  · have hn : 0 < n := by
      by_cases hn : n = 0
      · have := h0 hn; cases this
      · omega
    have hr := run_append_nil (P := P) w t ty e i z ht hi hz ⟨g, o, none⟩ n cap xs h.1 (fun j u hu => by rw [Addr.add_mid]; exact cell_in hg (hcs j u hu)) hn (by unfold maxLen at h63; omega) (by omega)
    refine ⟨_, _, _, hr, ⟨h.1, .inr ⟨w.heap.size, 0, _, rfl, heap_alloc_new w.drew _, grownCap_ge w n 0 e, grownCap_le_maxLen w n 0 e h63, fun _ => ⟨rfl, ?_⟩, fun j u hu => ?_⟩⟩, (Below.refl _ w).drew.alloc (Nat.le_refl _) _, fun a ha => by injection ha with ha; subst ha; exact Nat.le_refl _⟩
    · simp only [Array.size_append, List.size_toArray, size_zeroCells, hzs]
      rw [h.1, Nat.sub_mul]
      have := Nat.mul_le_mul_right i.size (grownCap_ge w n 0 e)
      omega
    · rw [Nat.zero_add, Array.getElem?_append_left (by have := (List.getElem?_eq_some_iff.1 hu).1; simpa using this)]
      simpa using hu
end
theorem step_append_copy {P : Program} {ops : Array Oper} {o : Oper} {a : Act} {w : World} {K : Act → World → Prop} {Q : Exit → Act → World → Prop} {E : Prop}
    (hgd : o.guard = none) (x : Operand) (t : TypeId) (hop : o.op = Op.call { callee := Callee.builtin Builtin.append, args := #[.const (.slice none 0 0), x], argTypes := #[t, t] })
    (e : TypeId) (i : TypeInfo) (z : Value) (k bytes : Nat) (ht : P.underlying t = some (.slice e)) (hi : P.info? e = some i) (hz : i.zero = some z)
    (hsize : i.size = k) (hby : i.bytes = bytes) (hzs : z.cells.size = k)
    (ao : Option Addr) (n cap : Nat) (xs : List Value) (hx : a.eval x = .slice ao n cap) (h : RowK w e k ao n cap xs) (h0 : n = 0 → ao = none)
    (h63 : n ≤ maxLen) (hbytes : n * bytes ≤ 140737488355328)
    (hK : ∀ ao' cap' w', RowK w' e k ao' n cap' xs → Below w.heap.size w w' → (∀ a, ao' = some a → w.heap.size ≤ a.block) → K (a.put o.dst (.slice ao' n cap')) w') :
    if Region.wanted o (yielded ops a.tmps) = true then Oper.wp P o a w K Q else E := by
  have hw : Region.wanted o (yielded ops a.tmps) = true := by simp [Region.wanted, hgd]
  rw [if_pos hw]
  obtain ⟨ao', cap', w', hrun, h2, h3, h4⟩ := run_append_copy (P := P) w t o.type e i z k bytes ht hi hz hsize hby hzs ao n cap xs h h0 h63 hbytes
  unfold Oper.wp
  have hs : a.eval (.const (.slice none 0 0)) = .slice none 0 0 := rfl
  simp [execOp, hop, resolve, invoke, builtin, hs, hx, hrun, Result.andThen]
  exact hK ao' cap' w' h2 h3 h4
theorem wpList_append_copy {P : Program} {ops : Array Oper} {o : Oper} {rest : List Oper} {Q : Exit → Act → World → Prop} {a : Act} {w : World}
    (hgd : o.guard = none) (x : Operand) (t : TypeId) (hop : o.op = Op.call { callee := Callee.builtin Builtin.append, args := #[.const (.slice none 0 0), x], argTypes := #[t, t] })
    (e : TypeId) (i : TypeInfo) (z : Value) (k bytes : Nat) (ht : P.underlying t = some (.slice e)) (hi : P.info? e = some i) (hz : i.zero = some z)
    (hsize : i.size = k) (hby : i.bytes = bytes) (hzs : z.cells.size = k)
    (ao : Option Addr) (n cap : Nat) (xs : List Value) (hx : a.eval x = .slice ao n cap) (h : RowK w e k ao n cap xs) (h0 : n = 0 → ao = none)
    (h63 : n ≤ maxLen) (hbytes : n * bytes ≤ 140737488355328)
    (hK : ∀ ao' cap' w', RowK w' e k ao' n cap' xs → Below w.heap.size w w' → (∀ a, ao' = some a → w.heap.size ≤ a.block) → wpList P ops Q rest (a.put o.dst (.slice ao' n cap')) w') :
    wpList P ops Q (o :: rest) a w := by
  refine wpList_step fun K hKK => ?_
  have := step_append_copy (ops := ops) (K := K) (Q := Q) (E := False) hgd x t hop e i z k bytes ht hi hz hsize hby hzs ao n cap xs hx h h0 h63 hbytes fun ao' cap' w' h1 h2 h3 => hKK _ _ (hK ao' cap' w' h1 h2 h3)
  have hw : Region.wanted o (yielded ops a.tmps) = true := by simp [Region.wanted, hgd]
  rw [if_pos hw] at this
  rw [if_pos hw]
  exact this
theorem info_rowS : ∃ i z, Try.prog.info? 34 = some i ∧ i.zero = some z ∧ i.size = 3 ∧ i.bytes = 12 ∧ z.cells.size = 3 := by
  have h : (Try.prog.info? 34).map (fun i => (i.zero, i.size, i.bytes)) = some (some (.agg #[.int .u32 0, .int .u32 0, .int .u32 0]), 3, 12) := by kernel_rfl
  cases hi : Try.prog.info? 34 with
  | none => rw [hi] at h; cases h
  | some i =>
    rw [hi] at h
    simp only [Option.map_some, Option.some.injEq, Prod.mk.injEq] at h
    exact ⟨i, _, rfl, h.1, h.2.1, h.2.2, rfl⟩
theorem info_bitS : ∃ i z, Try.prog.info? 35 = some i ∧ i.zero = some z ∧ i.size = 1 ∧ i.bytes = 1 ∧ z.cells.size = 1 := by
  have h : (Try.prog.info? 35).map (fun i => (i.zero, i.size, i.bytes)) = some (some (.int .u8 0), 1, 1) := by kernel_rfl
  cases hi : Try.prog.info? 35 with
  | none => rw [hi] at h; cases h
  | some i =>
    rw [hi] at h
    simp only [Option.map_some, Option.some.injEq, Prod.mk.injEq] at h
    exact ⟨i, _, rfl, h.1, h.2.1, h.2.2, rfl⟩
theorem news_new (u : World) (cs : List Value) (t : TypeId) : ∀ j v, cs[j]? = some v → (u.alloc (.cells cs.toArray t)).cell? ((⟨u.heap.size, 0, none⟩ : Addr).add j) = some v := fun j v hv => by
  rw [Addr.add_mid, Nat.zero_add]
  exact cell_in (heap_alloc_new u _) (by simpa using hv)
section
variable {W U w : World} {Q : Nat → Prop} {wb : Nat} {R : List EntN} {ra ba : Option Addr} {rc bc : Nat}
/-- A row's bits are written. -/
theorem RefM.setB (h : RefM W Q wb R ra rc ba bc) {g o : Nat} (hb : ba = some ⟨g, o, none⟩) {n : Nat} {x : EntN} (hx : R[n]? = some x) (b : Nat) (hb2 : b < 256) : RefM (W.setCell ⟨g, o + n, none⟩ (.int .u8 (b : Int))) Q wb (R.set n (x.1, b)) ra rc ba bc := by
  obtain ⟨c, hc⟩ := h.bits.type hb
  have hw : g ≠ wb := types_ne hc h.blk (by decide)
  have k : ∀ j, j ≠ g → (W.setCell ⟨g, o + n, none⟩ (.int .u8 (b : Int))).heap[j]? = W.heap[j]? := fun j hj => Below.heap_setCell _ _ _ _ hj
  have hm := List.mem_of_getElem? hx
  exact {
    blk := by rw [k wb hw.symm, List.length_set]; exact h.blk
    rows := by
      rw [List.length_set]
      have e : flatR (R.set n (x.1, b)) = flatR R := by
        have key : ∀ L : List EntN, flatR L = (L.map (·.1)).flatMap rowL := fun L => by unfold flatR; rw [List.flatMap_map]
        rw [key, key, map_set_row hx b]
      rw [e]
      exact h.rows.kept fun a ha => k _ (fun e => by obtain ⟨c', hc'⟩ := h.rows.type ha; exact types_ne hc' hc (by decide) e)
    bits := by
      rw [List.length_set]
      have e : bitsC (R.set n (x.1, b)) = (bitsC R).set n (.int .u8 (b : Int)) := by unfold bitsC; rw [List.map_set]
      rw [e]
      exact h.bits.set hb n _
    ok := fun y hy => by
      rcases List.mem_or_eq_of_mem_set hy with hy | rfl
      · exact h.ok y hy
      · exact ⟨(h.ok x hm).1, hb2⟩
    qW := h.qW
    qR := h.qR
    qB := h.qB
    lt := fun j hj => by have := h.lt j hj; simpa [World.setCell] using this
    nr := fun h0 => h.nr (by rw [List.length_set] at h0; exact h0) }
/-- A row more, in new memory. -/
theorem RefM.more (h : RefM W Q wb R ra rc ba bc) (r : RowN) (hr : okN r) {g o cap g2 o2 cap2 : Nat} {U1 U2 U3 : World} (hB1 : Below W.heap.size W U1) (hR : RowK U1 34 3 (some ⟨g, o, none⟩) (R.length + 1) cap (flatR R ++ rowL r)) (hg : W.heap.size ≤ g)
    (hU2 : U2 = U1.setCell ⟨wb, 0, none⟩ (.slice (some ⟨g, o, none⟩) (R.length + 1) cap)) (hB2 : Below U2.heap.size U2 U3) (hR2 : RowK U3 35 1 (some ⟨g2, o2, none⟩) (R.length + 1) cap2 (bitsC R ++ [.int .u8 0])) (hg2 : U2.heap.size ≤ g2) :
    RefM (U3.setCell ⟨wb, 1, none⟩ (.slice (some ⟨g2, o2, none⟩) (R.length + 1) cap2)) (growS Q W (U3.setCell ⟨wb, 1, none⟩ (.slice (some ⟨g2, o2, none⟩) (R.length + 1) cap2))) wb (R ++ [(r, 0)]) (some ⟨g, o, none⟩) cap (some ⟨g2, o2, none⟩) cap2 ∧ Turned Q W (U3.setCell ⟨wb, 1, none⟩ (.slice (some ⟨g2, o2, none⟩) (R.length + 1) cap2)) := by
  have hwl := h.lt wb h.qW
  have s2 : U2.heap.size = U1.heap.size := by rw [hU2]; simp [World.setCell]
  have s3 : (U3.setCell ⟨wb, 1, none⟩ (.slice (some ⟨g2, o2, none⟩) (R.length + 1) cap2)).heap.size = U3.heap.size := by simp [World.setCell]
  have hb1 := hB1.size
  have hb2 := hB2.size
  have hb : U2.heap[wb]? = some (.cells #[.slice (some ⟨g, o, none⟩) (R.length + 1) cap, .slice ba R.length bc] 30 (0, 0)) := by
    rw [hU2]
    exact heap_setCell_same U1 wb 0 _ _ _ ((hB1.block wb hwl).trans h.blk)
  have hb3 : U3.heap[wb]? = _ := (hB2.block wb (by omega)).trans hb
  have hgl : g < U1.heap.size := hR.lt (a := ⟨g, o, none⟩) rfl
  have hg2l : g2 < U3.heap.size := hR2.lt (a := ⟨g2, o2, none⟩) rfl
  have kg : ∀ j, j ≠ wb → j < U1.heap.size → (U3.setCell ⟨wb, 1, none⟩ (.slice (some ⟨g2, o2, none⟩) (R.length + 1) cap2)).heap[j]? = U1.heap[j]? := fun j hj hl => by
    rw [Below.heap_setCell _ _ _ _ hj, hB2.block j (by omega), hU2, Below.heap_setCell _ _ _ _ hj]
  refine ⟨?_, ?_⟩
  · have e1 : flatR (R ++ [(r, 0)]) = flatR R ++ rowL r := by unfold flatR; rw [List.flatMap_append]; simp
    have e2 : bitsC (R ++ [(r, 0)]) = bitsC R ++ [.int .u8 0] := by unfold bitsC; simp
    exact {
      blk := by rw [List.length_append]; exact heap_setCell_same U3 wb 1 _ _ _ hb3
      rows := by rw [List.length_append, e1]; exact hR.kept fun a ha => by injection ha with ha; subst ha; exact kg g (by omega) hgl
      bits := by rw [List.length_append, e2]; exact hR2.kept fun a ha => by injection ha with ha; subst ha; exact Below.heap_setCell _ _ _ _ (show g2 ≠ wb by omega)
      ok := fun x hx => by
        rcases List.mem_append.1 hx with hx | hx
        · exact h.ok x hx
        · rw [List.mem_singleton.1 hx]; exact ⟨hr, by show (0 : Nat) < 256; omega⟩
      qW := .inl h.qW
      qR := fun a ha => by injection ha with ha; subst ha; exact .inr ⟨hg, by rw [s3]; show g < _; omega⟩
      qB := fun a ha => by injection ha with ha; subst ha; exact .inr ⟨by show _ ≤ g2; omega, by rw [s3]; exact hg2l⟩
      lt := growS_lt h.lt (by rw [s3]; omega)
      nr := fun h0 => by rw [List.length_append] at h0; simp at h0 }
  · have t1 : Turned Q W U1 := Turned.of_below hB1
    have t2 : Turned Q U1 U2 := by rw [hU2]; exact Turned.set (a := ⟨wb, 0, none⟩) h.qW _
    have t3 : Turned Q U2 U3 := Turned.of_below hB2
    exact ((t1.trans t2).trans t3).trans (Turned.set (a := ⟨wb, 1, none⟩) h.qW _)
end
end Go.Proofs.Ytnmimagcmmdolaa
