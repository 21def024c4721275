/-
  THE REFERENCE'S TABLE IN MEMORY; contracts of its In, Fits, Find.
-/
import Derived.Test.YtnmimagcmmdolaaTbAdd
import Derived.ChangeKeysEq
import Derived.Deep.AppendLies
import Derived.Deep.RegionHeld3
namespace Go.Proofs.Ytnmimagcmmdolaa
open Go.RowKit
set_option linter.unusedVariables false
set_option linter.unusedSimpArgs false

theorem part_row0 (a : RowN) (w : World) : (part 32 (rowC a) 0).run Try.prog w = .ok (.int .u32 (a.1 : Int)) w := by kernel_rfl
theorem part_row1 (a : RowN) (w : World) : (part 32 (rowC a) 1).run Try.prog w = .ok (.int .u32 (a.2.1 : Int)) w := by kernel_rfl
theorem part_row2 (a : RowN) (w : World) : (part 32 (rowC a) 2).run Try.prog w = .ok (.int .u32 (a.2.2 : Int)) w := by kernel_rfl
theorem u32_eqIn (d : Nat) (x y : Int) (w : World) : (Op.equalIn (d + 1) 32 (.int .u32 x) (.int .u32 y)).run Try.prog w = .ok (x == y) w := by
  simp [Op.equalIn, run_underlying Try.underlying32]
theorem row_eql (a b : RowN) (w : World) : (binOp .eql 34 (rowV a) (rowV b)).run Try.prog w = .ok (.bool (decide (a = b))) w := by
  obtain ⟨i, hi⟩ : ∃ i, Try.prog.info? 32 = some i := Option.isSome_iff_exists.1 (by kernel_rfl)
  have hc : Try.prog.cellsOf 32 = 1 := by kernel_rfl
  have hr : List.range 3 = [0, 1, 2] := rfl
  have e : (Op.equal 34 (rowV a) (rowV b)).run Try.prog w = .ok (decide (a = b)) w := by
    show (Op.equalIn (9999 + 1) 34 (rowV a) (rowV b)).run Try.prog w = _
    rw [run_equalIn_array (w := w) 9999 _ _ Try.underlying34 hi, hc, hr]
    simp only [Op.eqItems, Sem.run_bind, Nat.zero_mul, Nat.one_mul, Nat.reduceMul, part_row0, part_row1, part_row2, Result.andThen_ok, show (9999 : Nat) = 9998 + 1 from rfl, u32_eqIn]
    obtain ⟨a1, a2, a3⟩ := a
    obtain ⟨b1, b2, b3⟩ := b
    simp only [Prod.mk.injEq]
    by_cases h1 : a1 = b1
    · by_cases h2 : a2 = b2
      · by_cases h3 : a3 = b3
        · simp [h1, h2, h3, Op.eqItems, part_row0, part_row1, part_row2, u32_eqIn]
        · have : ((a3 : Int) == (b3 : Int)) = false := by rw [beq_eq_false_iff_ne]; omega
          simp [h1, h2, h3, Op.eqItems, part_row0, part_row1, part_row2, u32_eqIn, this]
      · have : ((a2 : Int) == (b2 : Int)) = false := by rw [beq_eq_false_iff_ne]; omega
        simp [h1, h2, Op.eqItems, part_row0, part_row1, part_row2, u32_eqIn, this]
    · have : ((a1 : Int) == (b1 : Int)) = false := by rw [beq_eq_false_iff_ne]; omega
      simp [h1, Op.eqItems, part_row0, part_row1, part_row2, u32_eqIn, this]
  simp only [binOp]
  simp [e]

abbrev rowL (r : RowN) : List Value := [.int .u32 (r.1 : Int), .int .u32 (r.2.1 : Int), .int .u32 (r.2.2 : Int)]
def flatR (R : List EntN) : List Value := R.flatMap fun x => rowL x.1
def bitsC (R : List EntN) : List Value := R.map fun x : EntN => Value.int .u8 (x.2 : Int)
/-- The reference's table. -/
structure RefM (W : World) (Q : Nat → Prop) (wb : Nat) (R : List EntN) (ra : Option Addr) (rc : Nat) (ba : Option Addr) (bc : Nat) : Prop where
  blk : W.heap[wb]? = some (.cells #[.slice ra R.length rc, .slice ba R.length bc] 30 (0, 0))
  rows : RowK W 34 3 ra R.length rc (flatR R)
  bits : RowK W 35 1 ba R.length bc (bitsC R)
  ok : ∀ x ∈ R, okN x.1 ∧ x.2 < 256
  qW : Q wb
  qR : ∀ a, ra = some a → Q a.block
  qB : ∀ a, ba = some a → Q a.block
  lt : ∀ j, Q j → j < W.heap.size
  nr : R.length = 0 → ra = none ∧ ba = none
def RefI (W : World) (Q : Nat → Prop) (wb : Nat) (R : List EntN) : Prop := ∃ ra rc ba bc, RefM W Q wb R ra rc ba bc
section
variable {W U w : World} {Q : Nat → Prop} {wb : Nat} {R : List EntN} {ra ba : Option Addr} {rc bc : Nat}
theorem RefM.kept (h : RefM W Q wb R ra rc ba bc) (hs : W.heap.size ≤ U.heap.size) (k : ∀ j, Q j → U.heap[j]? = W.heap[j]?) : RefM U Q wb R ra rc ba bc :=
  { h with
    blk := by rw [k wb h.qW]; exact h.blk
    rows := h.rows.kept fun a ha => k _ (h.qR a ha)
    bits := h.bits.kept fun a ha => k _ (h.qB a ha)
    lt := fun j hj => Nat.lt_of_lt_of_le (h.lt j hj) hs }
theorem RefM.below (h : RefM W Q wb R ra rc ba bc) (k : Below W.heap.size W U) : RefM U Q wb R ra rc ba bc := h.kept k.size fun j hj => k.block j (h.lt j hj)
theorem RefI.kept (h : RefI W Q wb R) (hs : W.heap.size ≤ U.heap.size) (k : ∀ j, Q j → U.heap[j]? = W.heap[j]?) : RefI U Q wb R := by
  obtain ⟨ra, rc, ba, bc, h⟩ := h
  exact ⟨ra, rc, ba, bc, h.kept hs k⟩
theorem RefI.below (h : RefI W Q wb R) (k : Below W.heap.size W U) : RefI U Q wb R := by
  obtain ⟨ra, rc, ba, bc, h⟩ := h
  exact ⟨ra, rc, ba, bc, h.below k⟩
theorem RefI.beside {T : Nat → Prop} (h : RefI W Q wb R) (k : Turned T W U) (hn : ∀ j, Q j → ¬ T j) : RefI U Q wb R := by
  obtain ⟨ra, rc, ba, bc, h⟩ := h
  exact ⟨ra, rc, ba, bc, h.kept k.size fun j hj => k.block j (h.lt j hj) (hn j hj)⟩
theorem RefI.wide {Q' : Nat → Prop} (h : RefI W Q wb R) (hs : ∀ j, Q j → Q' j) (hl : ∀ j, Q' j → j < W.heap.size) : RefI W Q' wb R := by
  obtain ⟨ra, rc, ba, bc, h⟩ := h
  exact ⟨ra, rc, ba, bc, { h with qW := hs _ h.qW, qR := fun a ha => hs _ (h.qR a ha), qB := fun a ha => hs _ (h.qB a ha), lt := hl }⟩
theorem RefI.lt (h : RefI W Q wb R) : ∀ j, Q j → j < W.heap.size := by
  obtain ⟨ra, rc, ba, bc, h⟩ := h
  exact h.lt
theorem RefI.qW (h : RefI W Q wb R) : Q wb := by
  obtain ⟨ra, rc, ba, bc, h⟩ := h
  exact h.qW
/-- A block that is no cells may turn. -/
theorem RefI.own (h : RefI W Q wb R) {row : Option Nat} (hg : W.grownBy U row) (hr : ∀ r, row = some r → ∃ o : Obj, W.heap[r]? = some o ∧ o.isCells = false) : RefI U Q wb R := by
  obtain ⟨ra, rc, ba, bc, h⟩ := h
  have key : ∀ (g : Nat) (c : Array Value) (e : TypeId) (f : Nat × Nat), W.heap[g]? = some (Obj.cells c e f) → U.heap[g]? = W.heap[g]? := fun g c e f hc => hg.block g (Array.getElem?_eq_some_iff.1 hc).1 fun e => by
    obtain ⟨o, ho, hno⟩ := hr g e.symm
    rw [hc] at ho
    cases ho
    cases hno
  refine ⟨ra, rc, ba, bc, { h with
    blk := by rw [key wb _ _ _ h.blk]; exact h.blk
    rows := h.rows.kept fun a ha => by obtain ⟨c, hc⟩ := h.rows.type ha; exact key _ _ _ _ hc
    bits := h.bits.kept fun a ha => by obtain ⟨c, hc⟩ := h.bits.type ha; exact key _ _ _ _ hc
    lt := fun j hj => Nat.lt_of_lt_of_le (h.lt j hj) hg.size }⟩
/-- Where a row lies, and its bits. -/
theorem RefM.at_ (h : RefM W Q wb R ra rc ba bc) (hn : 0 < R.length) : ∃ g o g2 o2, ra = some ⟨g, o, none⟩ ∧ ba = some ⟨g2, o2, none⟩ ∧ (∀ (i : Nat) (x : EntN), R[i]? = some x → W.cell? ⟨g, o + i * 3, none⟩ = some (.int .u32 (x.1.1 : Int)) ∧ W.cell? ⟨g, o + i * 3 + 1, none⟩ = some (.int .u32 (x.1.2.1 : Int)) ∧ W.cell? ⟨g, o + i * 3 + 2, none⟩ = some (.int .u32 (x.1.2.2 : Int)) ∧ W.cell? ⟨g2, o2 + i, none⟩ = some (.int .u8 (x.2 : Int))) ∧ (∀ i, W.frozen? ⟨g, i, none⟩ = false) ∧ ∀ i, W.frozen? ⟨g2, i, none⟩ = false := by
  obtain ⟨g, o, e, hc, hf⟩ := h.rows.at_ hn
  obtain ⟨g2, o2, e2, hc2, hf2⟩ := h.bits.at_ hn
  refine ⟨g, o, g2, o2, e, e2, fun i x hx => ?_, hf, hf2⟩
  have key : ∀ j v, j < 3 → (rowL x.1)[j]? = some v → W.cell? ⟨g, o + i * 3 + j, none⟩ = some v := fun j v hj hv => by
    have := hc (i * 3 + j) v (by rw [show flatR R = R.flatMap (fun x => rowL x.1) from rfl, flat_get (fun x : EntN => rowL x.1) 3 (fun _ => rfl) R i j x hx hj]; exact hv)
    rw [← Nat.add_assoc] at this
    exact this
  exact ⟨key 0 _ (by omega) rfl, key 1 _ (by omega) rfl, key 2 _ (by omega) rfl, hc2 i _ (by unfold bitsC; rw [List.getElem?_map, hx]; rfl)⟩
abbrev refP (wb : Nat) : Value := .pointer (some ⟨wb, 0, none⟩)
set_option maxRecDepth 100000 in
theorem RefI.in_ (h : RefI w Q wb R) (n : Int) : Calls Try.prog 22 #[refP wb, .int .i64 n] w fun e w' => e = .returned (.bool (decide (0 ≤ n ∧ n < (R.length : Int)))) ∧ w = w' := by
  obtain ⟨ra, rc, ba, bc, h⟩ := h
  have c0 : w.cell? ⟨wb, 0, none⟩ = some (.slice ra R.length rc) := cell_in h.blk rfl
  clear h
  generalize R.length = m at *
  obtain ⟨v, hv⟩ : ∃ v, v = decide (0 ≤ n ∧ n < (m : Int)) := ⟨_, rfl⟩
  rw [← hv]
  by_cases h0 : 0 ≤ n
  · have e0 : decide (0 ≤ n) = true := by simpa using h0
    have e1 : decide (n < (m : Int)) = v := by rw [hv]; simp [h0]
    clear hv
    go_enter Try.func22, Try.ntmps22
    go_wp2
    go_ret
    exact ⟨rfl, rfl⟩
  · have e0 : decide (0 ≤ n) = false := by simpa using h0
    have hv0 : v = false := by rw [hv]; simp [h0]
    subst hv0
    clear hv
    go_enter Try.func22, Try.ntmps22
    go_wp2
    go_ret
    exact ⟨rfl, rfl⟩
end
end Go.Proofs.Ytnmimagcmmdolaa
