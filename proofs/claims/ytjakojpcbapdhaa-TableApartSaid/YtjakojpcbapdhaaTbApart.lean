/-
  THE WALK OF TableApart: what stands beside what.
-/
import Derived.Test.YtjakojpcbapdhaaTbPlays
import Derived.Test.YtjakojpcbapdhaaTbCopy2
namespace Go.Proofs.Ytjakojpcbapdhaa
open Go.RowKit Go.Shelf
set_option linter.unusedVariables false
set_option linter.unusedSimpArgs false

section
variable {P : Program} (w : World)
/-- A copy of a slice's elements, in a block of its own: nil where there are none. -/
theorem run_append_copy2 (t ty e : TypeId) (i : TypeInfo) (z : Value) (k bytes : Nat) (ht : P.underlying t = some (.slice e)) (hi : P.info? e = some i) (hz : i.zero = some z)
    (hsize : i.size = k) (hby : i.bytes = bytes) (hzs : z.cells.size = k)
    (ao : Option Addr) (n cap : Nat) (xs : List Value) (h : RowK w e k ao n cap xs) (h0 : n = 0 → ao = none)
    (h63 : n ≤ maxLen) (hbytes : n * bytes ≤ 140737488355328) :
    ∃ ao' cap' w', (Builtin.append_ #[t, t] ty #[.slice none 0 0, .slice ao n cap]).run P w = .ok (.slice ao' n cap') w' ∧ RowK w' e k ao' n cap' xs ∧ Below w.heap.size w w' ∧ (∀ a, ao' = some a → w.heap.size ≤ a.block) ∧ (n = 0 → ao' = none) := by
  by_cases hn : n = 0
  · subst hn
    obtain rfl := h0 rfl
    refine ⟨none, 0, w, ?_, ⟨h.1, .inl ⟨rfl, rfl, rfl⟩⟩, Below.refl _ _, (fun a ha => by cases ha), fun _ => rfl⟩
    simp [Builtin.append_, run_underlying ht, sizeOf, typeInfo, hi, Builtin.lenOf, Builtin.firstCells, storeCells]
  · obtain ⟨ao', cap', w', h1, h2, h3, h4⟩ := run_append_copy (P := P) w t ty e i z k bytes ht hi hz hsize hby hzs ao n cap xs h h0 h63 hbytes
    exact ⟨ao', cap', w', h1, h2, h3, h4, fun h => absurd h hn⟩
end
theorem wpList_append_copy2 {P : Program} {ops : Array Oper} {o : Oper} {rest : List Oper} {Q : Exit → Act → World → Prop} {a : Act} {w : World}
    (hgd : o.guard = none) (x : Operand) (t : TypeId) (hop : o.op = Op.call { callee := Callee.builtin Builtin.append, args := #[.const (.slice none 0 0), x], argTypes := #[t, t] })
    (e : TypeId) (i : TypeInfo) (z : Value) (k bytes : Nat) (ht : P.underlying t = some (.slice e)) (hi : P.info? e = some i) (hz : i.zero = some z)
    (hsize : i.size = k) (hby : i.bytes = bytes) (hzs : z.cells.size = k)
    (ao : Option Addr) (n cap : Nat) (xs : List Value) (hx : a.eval x = .slice ao n cap) (h : RowK w e k ao n cap xs) (h0 : n = 0 → ao = none)
    (h63 : n ≤ maxLen) (hbytes : n * bytes ≤ 140737488355328)
    (hK : ∀ ao' cap' w', RowK w' e k ao' n cap' xs → Below w.heap.size w w' → (∀ a, ao' = some a → w.heap.size ≤ a.block) → (n = 0 → ao' = none) → wpList P ops Q rest (a.put o.dst (.slice ao' n cap')) w') :
    wpList P ops Q (o :: rest) a w := by
  refine wpList_step fun K hKK => ?_
  obtain ⟨ao', cap', w', hrun, h2, h3, h4, h5⟩ := run_append_copy2 (P := P) w t o.type e i z k bytes ht hi hz hsize hby hzs ao n cap xs h h0 h63 hbytes
  have hw : Region.wanted o (yielded ops a.tmps) = true := by simp [Region.wanted, hgd]
  rw [if_pos hw]
  unfold Oper.wp
  have hs : a.eval (.const (.slice none 0 0)) = .slice none 0 0 := rfl
  simp [execOp, hop, resolve, invoke, builtin, hs, hx, hrun, Result.andThen]
  exact hKK _ _ (hK ao' cap' w' h2 h3 h4 h5)
/-- Two tables and two references, apart. -/
def PairI (w : World) (B tb wb : Nat) (R : List EntN) (B2 t2 v2 : Nat) (R2 : List EntN) (W : World) : Prop :=
  ∃ S Q S2 Q2, Both B W S Q tb wb R ∧ Both B2 W S2 Q2 t2 v2 R2 ∧ (∀ j, S j ∨ Q j → ¬ (S2 j ∨ Q2 j)) ∧ Below w.heap.size w W ∧ B ≤ W.heap.size ∧ B2 ≤ W.heap.size ∧ (∀ j, S j ∨ Q j → w.heap.size ≤ j) ∧ ∀ j, S2 j ∨ Q2 j → w.heap.size ≤ j
section
variable {w W U : World} {B tb wb B2 t2 v2 : Nat} {R R2 : List EntN}
theorem PairI.swap (h : PairI w B tb wb R B2 t2 v2 R2 W) : PairI w B2 t2 v2 R2 B tb wb R W := by
  obtain ⟨S, Q, S2, Q2, h1, h2, h3, h4, h5, h6, h7, h8⟩ := h
  exact ⟨S2, Q2, S, Q, h2, h1, fun j hj hk => h3 j hk hj, h4, h6, h5, h8, h7⟩
theorem PairI.bel (h : PairI w B tb wb R B2 t2 v2 R2 W) : Below w.heap.size w W := by
  obtain ⟨S, Q, S2, Q2, h1, h2, h3, h4, _⟩ := h
  exact h4
theorem PairI.below (h : PairI w B tb wb R B2 t2 v2 R2 W) (k : Below W.heap.size W U) : PairI w B tb wb R B2 t2 v2 R2 U := by
  obtain ⟨S, Q, S2, Q2, h1, h2, h3, h4, h5, h6, h7, h8⟩ := h
  exact ⟨S, Q, S2, Q2, h1.below k, h2.below k, h3, h4.trans (k.mono h4.size), Nat.le_trans h5 k.size, Nat.le_trans h6 k.size, h7, h8⟩
theorem PairI.do_ (h : PairI w B tb wb R B2 t2 v2 R2 W) (a : ActN) (ha : okA a) (hR : R.length ≤ 1000000) : Calls Try.prog 9 #[tabP tb, refP wb, .agg (actC a)] W fun e w' => e = .returned (.bool true) ∧ PairI w B tb wb (actR R a) B2 t2 v2 R2 w' := by
  obtain ⟨S, Q, S2, Q2, h1, h2, h3, h4, h5, h6, h7, h8⟩ := h
  refine (do_any h1 h5 a ha hR).mono ?_
  rintro e w' ⟨rfl, hT, S', Q', hB, hS', hQ'⟩
  have hl1 := h2.tab.lt
  have hl2 := h2.ref.lt
  have hs := h4.size
  have hk : ∀ j, S2 j ∨ Q2 j → w'.heap[j]? = W.heap[j]? := fun j hj => hT.block j (by rcases hj with hj | hj; exact hl1 j hj; exact hl2 j hj) (fun hb => h3 j hb hj)
  have hN : ∀ j, S' j ∨ Q' j → (S j ∨ Q j) ∨ W.heap.size ≤ j := fun j hj => by
    rcases hj with hj | hj
    · rcases hS' j hj with h | h
      · exact .inl (.inl h)
      · exact .inr h
    · rcases hQ' j hj with h | h
      · exact .inl (.inr h)
      · exact .inr h
  refine ⟨rfl, S', Q', S2, Q2, hB, ⟨h2.tab.kept hT.size (fun j hj => hk j (.inl hj)), h2.ref.kept hT.size (fun j hj => hk j (.inr hj)), h2.dis⟩, fun j hj hj2 => ?_, h4.trans (hT.below hs (fun j hj => h7 j hj)), Nat.le_trans h5 hT.size, Nat.le_trans h6 hT.size, fun j hj => ?_, h8⟩
  · rcases hN j hj with h | h
    · exact h3 j h hj2
    · rcases hj2 with h' | h'
      · have := hl1 j h'; omega
      · have := hl2 j h'; omega
  · rcases hN j hj with h | h
    · exact h7 j h
    · omega
theorem PairI.same (h : PairI w B tb wb R B2 t2 v2 R2 W) (hR : R.length ≤ 1000000) : Calls Try.prog 10 #[tabP tb, refP wb] W fun e w' => e = .returned (.bool true) ∧ PairI w B tb wb R B2 t2 v2 R2 w' := by
  have h0 := h
  obtain ⟨S, Q, S2, Q2, h1, _⟩ := h
  refine (same_any h1 hR).mono ?_
  rintro e w' ⟨rfl, hb⟩
  exact ⟨rfl, h0.below hb⟩
/-- The first two, an empty reference held beside them. -/
def OneI (w : World) (B tb wb vb : Nat) (R : List EntN) (W : World) : Prop :=
  ∃ S Q, Both B W S Q tb wb R ∧ W.heap[vb]? = some (.cells #[.slice none 0 0, .slice none 0 0] 30 (0, 0)) ∧ (¬ S vb ∧ ¬ Q vb) ∧ Below w.heap.size w W ∧ B ≤ W.heap.size ∧ (∀ j, S j ∨ Q j → w.heap.size ≤ j) ∧ w.heap.size ≤ vb
theorem OneI.bel {vb : Nat} (h : OneI w B tb wb vb R W) : Below w.heap.size w W := by
  obtain ⟨S, Q, h1, h2, h3, h4, _⟩ := h
  exact h4
theorem OneI.do_ {vb : Nat} (h : OneI w B tb wb vb R W) (a : ActN) (ha : okA a) (hR : R.length ≤ 1000000) : Calls Try.prog 9 #[tabP tb, refP wb, .agg (actC a)] W fun e w' => e = .returned (.bool true) ∧ OneI w B tb wb vb (actR R a) w' := by
  obtain ⟨S, Q, h1, h2, h3, h4, h5, h6, h7⟩ := h
  refine (do_any h1 h5 a ha hR).mono ?_
  rintro e w' ⟨rfl, hT, S', Q', hB, hS', hQ'⟩
  have hv := (Array.getElem?_eq_some_iff.1 h2).1
  have hs := h4.size
  refine ⟨rfl, S', Q', hB, (hT.block vb hv (fun hb => hb.elim h3.1 h3.2)).trans h2, ⟨fun hj => ?_, fun hj => ?_⟩, h4.trans (hT.below hs (fun j hj => h6 j hj)), Nat.le_trans h5 hT.size, fun j hj => ?_, h7⟩
  · rcases hS' vb hj with h | h
    · exact h3.1 h
    · omega
  · rcases hQ' vb hj with h | h
    · exact h3.2 h
    · omega
  · rcases hj with hj | hj
    · rcases hS' j hj with h | h
      · exact h6 j (.inl h)
      · omega
    · rcases hQ' j hj with h | h
      · exact h6 j (.inr h)
      · omega
/-- The reference's cells, and the empty one's. -/
theorem OneI.cells {vb : Nat} (h : OneI w B tb wb vb R W) : ∃ ra rc ba bc, (W.cell? ⟨wb, 0, none⟩ = some (.slice ra R.length rc) ∧ W.cell? ⟨wb, 1, none⟩ = some (.slice ba R.length bc)) ∧ (RowK W 34 3 ra R.length rc (flatR R) ∧ (R.length = 0 → ra = none)) ∧ RowK W 35 1 ba R.length bc (bitsC R) ∧ (R.length = 0 → ba = none) := by
  obtain ⟨S, Q, h1, _⟩ := h
  obtain ⟨ra, rc, ba, bc, hm⟩ := h1.ref
  exact ⟨ra, rc, ba, bc, ⟨cell_in hm.blk rfl, cell_in hm.blk rfl⟩, ⟨hm.rows, fun h => (hm.nr h).1⟩, hm.bits, fun h => (hm.nr h).2⟩
/-- Behind the rows' copy. -/
def MidI (w : World) (B tb wb vb : Nat) (R : List EntN) (ra' : Option Addr) (rc' : Nat) (W : World) : Prop :=
  ∃ S Q, Both B W S Q tb wb R ∧ W.heap[vb]? = some (.cells #[.slice ra' R.length rc', .slice none 0 0] 30 (0, 0)) ∧ RowK W 34 3 ra' R.length rc' (flatR R) ∧ (R.length = 0 → ra' = none) ∧ (∀ j, (j = vb ∨ ∃ a, ra' = some a ∧ j = a.block) → ¬ S j ∧ ¬ Q j ∧ w.heap.size ≤ j) ∧ Below w.heap.size w W ∧ B ≤ W.heap.size ∧ ∀ j, S j ∨ Q j → w.heap.size ≤ j
theorem OneI.mid {vb : Nat} (h : OneI w B tb wb vb R W) {y : World} (hb : Below W.heap.size W y) {ra' : Option Addr} {rc' : Nat} (hr : RowK y 34 3 ra' R.length rc' (flatR R)) (hn : ∀ a, ra' = some a → W.heap.size ≤ a.block) (h0 : R.length = 0 → ra' = none) :
    (y.cell? ⟨vb, 0, none⟩ = some (.slice none 0 0) ∧ ∀ i, y.frozen? ⟨vb, i, none⟩ = false) ∧ MidI w B tb wb vb R ra' rc' (y.setCell ⟨vb, 0, none⟩ (.slice ra' R.length rc')) := by
  obtain ⟨S, Q, h1, h2, h3, h4, h5, h6, h7⟩ := h
  have hv := (Array.getElem?_eq_some_iff.1 h2).1
  have hy := (hb.block vb hv).trans h2
  have hlS := h1.tab.lt
  have hlQ := h1.ref.lt
  have hws := h4.size
  have hss : (y.setCell ⟨vb, 0, none⟩ (.slice ra' R.length rc')).heap.size = y.heap.size := by simp [World.setCell]
  have hyv := hb.size
  refine ⟨⟨cell_in hy rfl, fun i => free_in hy i⟩, S, Q, ⟨(h1.tab.below hb).kept (by omega) (fun j hj => Below.heap_setCell _ _ _ _ (fun e => h3.1 (by rw [show j = vb from e] at hj; exact hj))), (h1.ref.below hb).kept (by omega) (fun j hj => Below.heap_setCell _ _ _ _ (fun e => h3.2 (by rw [show j = vb from e] at hj; exact hj))), h1.dis⟩,
    heap_setCell_same y vb 0 _ _ _ hy, hr.kept (fun a ha => Below.heap_setCell _ _ _ _ (by have := hn a ha; show a.block ≠ vb; omega)), h0, fun j hj => ?_, (h4.trans (hb.mono hws)).setCell (p := ⟨vb, 0, none⟩) h7 _, by omega, h6⟩
  rcases hj with rfl | ⟨a, ha, rfl⟩
  · exact ⟨h3.1, h3.2, h7⟩
  · have := hn a ha
    exact ⟨fun hj => by have := hlS _ hj; omega, fun hj => by have := hlQ _ hj; omega, by omega⟩
theorem MidI.cells {vb : Nat} {ra' : Option Addr} {rc' : Nat} (h : MidI w B tb wb vb R ra' rc' W) : ∃ ba bc, W.cell? ⟨wb, 1, none⟩ = some (.slice ba R.length bc) ∧ RowK W 35 1 ba R.length bc (bitsC R) ∧ (R.length = 0 → ba = none) := by
  obtain ⟨S, Q, h1, _⟩ := h
  obtain ⟨ra, rc, ba, bc, hm⟩ := h1.ref
  exact ⟨ba, bc, cell_in hm.blk rfl, hm.bits, fun h => (hm.nr h).2⟩
/-- Behind both copies. -/
def ThreeI (w : World) (B tb wb vb : Nat) (R : List EntN) (W : World) : Prop :=
  ∃ S Q Q2, Both B W S Q tb wb R ∧ RefI W Q2 vb R ∧ (∀ j, S j ∨ Q j → ¬ Q2 j) ∧ Below w.heap.size w W ∧ B ≤ W.heap.size ∧ (∀ j, S j ∨ Q j → w.heap.size ≤ j) ∧ ∀ j, Q2 j → w.heap.size ≤ j
theorem MidI.three {vb : Nat} {ra' : Option Addr} {rc' : Nat} (h : MidI w B tb wb vb R ra' rc' W) {y : World} (hb : Below W.heap.size W y) {ba' : Option Addr} {bc' : Nat} (hr : RowK y 35 1 ba' R.length bc' (bitsC R)) (hn : ∀ a, ba' = some a → W.heap.size ≤ a.block) (h0 : R.length = 0 → ba' = none) :
    (y.cell? ⟨vb, 1, none⟩ = some (.slice none 0 0) ∧ ∀ i, y.frozen? ⟨vb, i, none⟩ = false) ∧ ThreeI w B tb wb vb R (y.setCell ⟨vb, 1, none⟩ (.slice ba' R.length bc')) := by
  obtain ⟨S, Q, h1, h2, h3, h4, h5, h6, h7, h8⟩ := h
  have hv := (Array.getElem?_eq_some_iff.1 h2).1
  have hy := (hb.block vb hv).trans h2
  have hlS := h1.tab.lt
  have hlQ := h1.ref.lt
  have hws := h6.size
  have hss : (y.setCell ⟨vb, 1, none⟩ (.slice ba' R.length bc')).heap.size = y.heap.size := by simp [World.setCell]
  have hyv := hb.size
  have hvb := h5 vb (.inl rfl)
  have hry := h3.below hb
  have hne : ∀ a, ra' = some a → a.block ≠ vb := fun a ha e => by
    obtain ⟨c, hc⟩ := hry.type ha
    exact types_ne hc hy (by decide) e
  have hnb : ∀ a, ba' = some a → a.block ≠ vb := fun a ha => by have := hn a ha; omega
  obtain ⟨ra0, rc0, ba0, bc0, hm0⟩ := h1.ref
  refine ⟨⟨cell_in hy rfl, fun i => free_in hy i⟩, S, Q, fun j => j = vb ∨ (∃ a, ra' = some a ∧ j = a.block) ∨ ∃ a, ba' = some a ∧ j = a.block,
    ⟨(h1.tab.below hb).kept (by omega) (fun j hj => Below.heap_setCell _ _ _ _ (fun e => hvb.1 (by rw [show j = vb from e] at hj; exact hj))), (h1.ref.below hb).kept (by omega) (fun j hj => Below.heap_setCell _ _ _ _ (fun e => hvb.2.1 (by rw [show j = vb from e] at hj; exact hj))), h1.dis⟩,
    ⟨ra', rc', ba', bc', ?_⟩, fun j hj hk => ?_, (h6.trans (hb.mono hws)).setCell (p := ⟨vb, 1, none⟩) hvb.2.2 _, by omega, h8, fun j hj => ?_⟩
  · exact {
      blk := heap_setCell_same y vb 1 _ _ _ hy
      rows := hry.kept (fun a ha => Below.heap_setCell _ _ _ _ (hne a ha))
      bits := hr.kept (fun a ha => Below.heap_setCell _ _ _ _ (hnb a ha))
      ok := hm0.ok
      qW := .inl rfl
      qR := fun a ha => .inr (.inl ⟨a, ha, rfl⟩)
      qB := fun a ha => .inr (.inr ⟨a, ha, rfl⟩)
      lt := fun j hj => by
        rcases hj with rfl | ⟨a, ha, rfl⟩ | ⟨a, ha, rfl⟩
        · omega
        · have := hry.lt ha; omega
        · have := hr.lt ha; omega
      nr := fun h => ⟨h4 h, h0 h⟩ }
  · rcases hk with rfl | ⟨a, ha, rfl⟩ | ⟨a, ha, rfl⟩
    · exact hj.elim hvb.1 hvb.2.1
    · have := h5 a.block (.inr ⟨a, ha, rfl⟩)
      exact hj.elim this.1 this.2.1
    · have := hn a ha
      rcases hj with hj | hj
      · have := hlS _ hj; omega
      · have := hlQ _ hj; omega
  · rcases hj with rfl | ⟨a, ha, rfl⟩ | ⟨a, ha, rfl⟩
    · exact hvb.2.2
    · exact (h5 a.block (.inr ⟨a, ha, rfl⟩)).2.2
    · have := hn a ha; omega
theorem ThreeI.copy {vb : Nat} (h : ThreeI w B tb wb vb R W) (hR : R.length ≤ 1000000) : Calls Try.prog 19 #[tabP tb] W fun e w' => ∃ tb', e = .returned (tabP tb') ∧ PairI w B tb wb R w'.heap.size tb' vb R w' := by
  obtain ⟨S, Q, Q2, h1, h2, h3, h4, h5, h6, h7⟩ := h
  refine (h1.tab.copy hR).mono ?_
  rintro e w' ⟨tb', rfl, hb, htb, hT⟩
  have hlS := h1.tab.lt
  have hlQ := h1.ref.lt
  have hlQ2 := h2.lt
  have hws := h4.size
  have hs := hb.size
  refine ⟨tb', rfl, S, Q, fun j => W.heap.size ≤ j ∧ j < w'.heap.size, Q2, h1.below hb, ⟨hT, h2.below hb, fun j hj hq => by have := hlQ2 j hq; omega⟩, fun j hj hk => ?_, h4.trans (hb.mono hws), by omega, Nat.le_refl _, h6, fun j hj => ?_⟩
  · rcases hk with hk | hk
    · rcases hj with hj | hj
      · have := hlS j hj; omega
      · have := hlQ j hj; omega
    · exact h3 j hj hk
  · rcases hj with hj | hj
    · omega
    · exact h7 j hj
end
end Go.Proofs.Ytjakojpcbapdhaa
