/-
  CONTRACTS OF known AND looks.
-/
import Derived.Test.YtnmimagcmmdolaaTbLeaf
namespace Go.Proofs.Ytnmimagcmmdolaa
open Go.RowKit
set_option linter.unusedVariables false
set_option linter.unusedSimpArgs false

def oneN (a : Nat) : Nat := if a = 0 then 0 else 1
def knownN (r : RowN) : Nat := oneN r.1 + oneN r.2.1 + oneN r.2.2
/-- A number of a row by its place. -/
def atN (r : RowN) (k : Nat) : Nat := if k = 0 then r.1 else if k = 1 then r.2.1 else r.2.2
def knownK (r : RowN) (k : Nat) : Nat := ((List.range k).map fun i => oneN (atN r i)).foldl (· + ·) 0
theorem knownK_succ (r : RowN) (k : Nat) : knownK r (k + 1) = knownK r k + oneN (atN r k) := by
  unfold knownK
  rw [List.range_succ, List.map_append, List.foldl_append]
  rfl
theorem knownK_le (r : RowN) (k : Nat) : knownK r k ≤ k := by
  induction k with
  | zero => exact Nat.le_refl _
  | succ k ih =>
    rw [knownK_succ]
    have : oneN (atN r k) ≤ 1 := by unfold oneN; split <;> omega
    omega
theorem knownK_three (r : RowN) : knownK r 3 = knownN r := by
  rw [knownK_succ, knownK_succ, knownK_succ]
  show 0 + _ + _ + _ = _
  rw [Nat.zero_add]
  rfl

theorem idx_row0 (a b c : Value) (W : World) : (Instr.index 34 (.agg #[a, b, c]) (.int .i64 0)).run Try.prog W = .ok a W := by
  have hz : ∀ U, (sizeOf 32).run Try.prog U = .ok 1 U := fun U => by kernel_rfl
  have hg : ∀ U, (isAgg 32).run Try.prog U = .ok false U := fun U => by kernel_rfl
  simp [Instr.index, run_underlying Try.underlying34, asIntOf, hz, hg, part, Result.andThen, go_sem]
theorem idx_row1 (a b c : Value) (W : World) : (Instr.index 34 (.agg #[a, b, c]) (.int .i64 1)).run Try.prog W = .ok b W := by
  have hz : ∀ U, (sizeOf 32).run Try.prog U = .ok 1 U := fun U => by kernel_rfl
  have hg : ∀ U, (isAgg 32).run Try.prog U = .ok false U := fun U => by kernel_rfl
  simp [Instr.index, run_underlying Try.underlying34, asIntOf, hz, hg, part, Result.andThen, go_sem]
theorem idx_row2 (a b c : Value) (W : World) : (Instr.index 34 (.agg #[a, b, c]) (.int .i64 2)).run Try.prog W = .ok c W := by
  have hz : ∀ U, (sizeOf 32).run Try.prog U = .ok 1 U := fun U => by kernel_rfl
  have hg : ∀ U, (isAgg 32).run Try.prog U = .ok false U := fun U => by kernel_rfl
  simp [Instr.index, run_underlying Try.underlying34, asIntOf, hz, hg, part, Result.andThen, go_sem]
set_option maxRecDepth 100000 in
theorem tbKnown_any (r : RowN) (w : World) : Calls Try.prog 30 #[rowV r] w fun e w' => e = .returned (.int .i64 (knownN r : Int)) ∧ Below w.heap.size w w' := by
  obtain ⟨v, hv⟩ : ∃ v, v = knownN r := ⟨_, rfl⟩
  rw [← hv]
  have HV := Lib.hid hv
  clear hv
  have HB1 := Lib.hid ((Below.refl w.heap.size w).alloc (Nat.le_refl _) (.cells (rowC r) 34))
  have hc0 := heap_alloc_new w (.cells (rowC r) 34)
  obtain ⟨W, hW⟩ : ∃ W, W = w.alloc (.cells (rowC r) 34) := ⟨_, rfl⟩
  rw [← hW] at HB1 hc0
  have HW := Lib.hid hW
  obtain ⟨n0, hn0⟩ : ∃ n0, n0 = w.heap.size := ⟨_, rfl⟩
  rw [← hn0] at hc0
  have HN0 := Lib.hid hn0
  have c0 : W.cell? ⟨n0, 0, none⟩ = some (.int .u32 (r.1 : Int)) := cell_in hc0 rfl
  have c1 : W.cell? ⟨n0, 1, none⟩ = some (.int .u32 (r.2.1 : Int)) := cell_in hc0 rfl
  have c2 : W.cell? ⟨n0, 2, none⟩ = some (.int .u32 (r.2.2 : Int)) := cell_in hc0 rfl
  have hx0 := idx_row0
  have hx1 := idx_row1
  have hx2 := idx_row2
  clear hW hn0 hc0
  go_enter Try.func30, Try.ntmps30
  go_upto_region 1 with fail
  rw [← HW.out, ← HN0.out]
  go_wp2
  go_loopg [3, 7] 3 (fun g a i wr => ∃ k : Nat, k ≤ 3 ∧ 3 - k ≤ g ∧ i = .int .i64 (k : Int) ∧ a = .int .i64 (knownK r k : Int) ∧ wr = W)
  case atStart => exact ⟨0, by omega, by omega, rfl, rfl, rfl⟩
  case round =>
    obtain ⟨k, hk, hg, rfl, rfl, rfl⟩ := hrel
    have hs := knownK_succ r k
    have hl := knownK_le r k
    obtain rfl | hk3 : k = 3 ∨ k < 3 := by omega
    · have HV3 : Hid (v = knownK r 3) := Lib.hid (by rw [knownK_three]; exact HV.out)
      rw [← HV3.out] at hl ⊢
      clear hs
      go_wp2
      go_ret
      exact ⟨rfl, HB1.out⟩
    · have HS := Lib.hid hs
      clear hs
      obtain ⟨m, hm⟩ : ∃ m, m = knownK r k := ⟨_, rfl⟩
      rw [← hm] at hl ⊢
      have HM := Lib.hid hm
      clear hm
      obtain rfl | rfl | rfl : k = 0 ∨ k = 1 ∨ k = 2 := by omega
      · have HX : Hid (atN r 0 = r.1) := Lib.hid rfl
        by_cases h0 : r.1 = 0
        · have e1 : ((r.1 : Int) != 0) = false := by simp [h0]
          have HS0 : Hid (knownK r (0 + 1) = m) := Lib.hid (by rw [HS.out, ← HM.out, HX.out, oneN, if_pos h0]; rfl)
          clear h0
          go_wp2
          go_roundg 2
          case measure => omega
          case rel => exact ⟨1, by omega, by omega, rfl, by rw [HS0.out], rfl⟩
        · have e1 : ((r.1 : Int) != 0) = true := by rw [bne_iff_ne]; omega
          have HS0 : Hid (knownK r (0 + 1) = m + 1) := Lib.hid (by rw [HS.out, ← HM.out, HX.out, oneN, if_neg h0])
          clear h0
          go_wp2
          go_roundg 2
          case measure => omega
          case rel => exact ⟨1, by omega, by omega, rfl, by rw [HS0.out]; go_num, rfl⟩
      · have HX : Hid (atN r 1 = r.2.1) := Lib.hid rfl
        by_cases h0 : r.2.1 = 0
        · have e1 : ((r.2.1 : Int) != 0) = false := by simp [h0]
          have HS0 : Hid (knownK r (1 + 1) = m) := Lib.hid (by rw [HS.out, ← HM.out, HX.out, oneN, if_pos h0]; rfl)
          clear h0
          go_wp2
          go_roundg 1
          case measure => omega
          case rel => exact ⟨2, by omega, by omega, rfl, by rw [HS0.out], rfl⟩
        · have e1 : ((r.2.1 : Int) != 0) = true := by rw [bne_iff_ne]; omega
          have HS0 : Hid (knownK r (1 + 1) = m + 1) := Lib.hid (by rw [HS.out, ← HM.out, HX.out, oneN, if_neg h0])
          clear h0
          go_wp2
          go_roundg 1
          case measure => omega
          case rel => exact ⟨2, by omega, by omega, rfl, by rw [HS0.out]; go_num, rfl⟩
      · have HX : Hid (atN r 2 = r.2.2) := Lib.hid rfl
        by_cases h0 : r.2.2 = 0
        · have e1 : ((r.2.2 : Int) != 0) = false := by simp [h0]
          have HS0 : Hid (knownK r (2 + 1) = m) := Lib.hid (by rw [HS.out, ← HM.out, HX.out, oneN, if_pos h0]; rfl)
          clear h0
          go_wp2
          go_roundg 0
          case measure => omega
          case rel => exact ⟨3, by omega, by omega, rfl, by rw [HS0.out], rfl⟩
        · have e1 : ((r.2.2 : Int) != 0) = true := by rw [bne_iff_ne]; omega
          have HS0 : Hid (knownK r (2 + 1) = m + 1) := Lib.hid (by rw [HS.out, ← HM.out, HX.out, oneN, if_neg h0])
          clear h0
          go_wp2
          go_roundg 0
          case measure => omega
          case rel => exact ⟨3, by omega, by omega, rfl, by rw [HS0.out]; go_num, rfl⟩

/-- The patterns of one and of two numbers. -/
def lookN (r : RowN) (i : Nat) : RowN :=
  match i with
  | 0 => (r.1, 0, 0)
  | 1 => (0, r.2.1, 0)
  | 2 => (0, 0, r.2.2)
  | 3 => (r.1, r.2.1, 0)
  | 4 => (r.1, 0, r.2.2)
  | _ => (0, r.2.1, r.2.2)
abbrev looksC (r : RowN) : Array Value := #[.int .u32 (r.1 : Int), .int .u32 0, .int .u32 0, .int .u32 0, .int .u32 (r.2.1 : Int), .int .u32 0, .int .u32 0, .int .u32 0, .int .u32 (r.2.2 : Int),
  .int .u32 (r.1 : Int), .int .u32 (r.2.1 : Int), .int .u32 0, .int .u32 (r.1 : Int), .int .u32 0, .int .u32 (r.2.2 : Int), .int .u32 0, .int .u32 (r.2.1 : Int), .int .u32 (r.2.2 : Int)]
abbrev zLk : Array Value := #[.int .u32 0, .int .u32 0, .int .u32 0, .int .u32 0, .int .u32 0, .int .u32 0, .int .u32 0, .int .u32 0, .int .u32 0, .int .u32 0, .int .u32 0, .int .u32 0, .int .u32 0, .int .u32 0, .int .u32 0, .int .u32 0, .int .u32 0, .int .u32 0]
theorem there_new (W : World) (cs : Array Value) (t : TypeId) (n : Nat) (hn : n ≤ cs.size) : (W.alloc (.cells cs t)).there W.heap.size 0 n := fun j hj => by
  have h := heap_alloc_new W (.cells cs t)
  refine ⟨?_, free_in h _⟩
  rw [Nat.zero_add, cell_in h (Array.getElem?_eq_getElem (show j < cs.size by omega))]
  rfl
theorem setCells_whole {W : World} {g : Nat} {t : TypeId} : ∀ (cs : List Value) (o : Nat) (U : World) (old : Array Value), U.heap[g]? = some (.cells old t (0, 0)) → o + cs.length = old.size → (U.setCells g o cs).heap[g]? = some (.cells (old.extract 0 o ++ cs.toArray) t (0, 0))
  | [], o, U, old, h, hs => by
    show U.heap[g]? = _
    rw [h]
    congr 2
    have : o = old.size := by simpa using hs
    subst this
    simp
  | c :: cs, o, U, old, h, hs => by
    have h1 := heap_setCell_same U g o old t c h
    have h2 := setCells_whole (W := W) cs (o + 1) (U.setCell ⟨g, o, none⟩ c) (old.setIfInBounds o c) h1 (by simp at hs ⊢; omega)
    show ((U.setCell ⟨g, o, none⟩ c).setCells g (o + 1) cs).heap[g]? = _
    rw [h2]
    congr 2
    apply Array.ext'
    have hlt : o < old.toList.length := by simp at hs ⊢; omega
    simp only [Array.toList_append, Array.toList_extract, Array.toList_setIfInBounds, List.extract_eq_take_drop, List.drop_zero, Nat.sub_zero]
    rw [List.take_add_one, List.take_set_of_le (Nat.le_refl o), List.getElem?_set_self hlt]
    simp
theorem setCells_size (g : Nat) : ∀ (cs : List Value) (o : Nat) (U : World), (U.setCells g o cs).heap.size = U.heap.size
  | [], _, _ => rfl
  | c :: cs, o, U => by
    show ((U.setCell ⟨g, o, none⟩ c).setCells g (o + 1) cs).heap.size = _
    rw [setCells_size g cs]
    simp [World.setCell]
theorem setCells_below {B : Nat} {w : World} (g : Nat) (hg : B ≤ g) : ∀ (cs : List Value) (o : Nat) (U : World), Below B w U → Below B w (U.setCells g o cs)
  | [], _, _, h => h
  | c :: cs, o, U, h => setCells_below g hg cs (o + 1) _ (h.setCell (p := ⟨g, o, none⟩) hg c)

set_option maxRecDepth 100000 in
theorem tbLooks_any (r : RowN) (w : World) : Calls Try.prog 40 #[rowV r] w fun e w' => e = .returned (.agg (looksC r)) ∧ Below w.heap.size w w' := by
  have hc0 := heap_alloc_new w (.cells (rowC r) 34)
  have hb0 := (Below.refl w.heap.size w).alloc (Nat.le_refl _) (.cells (rowC r) 34)
  have hs0 : (w.alloc (.cells (rowC r) 34)).heap.size = w.heap.size + 1 := World.size_alloc _ _
  obtain ⟨W0, hW0⟩ : ∃ W0, W0 = w.alloc (.cells (rowC r) 34) := ⟨_, rfl⟩
  rw [← hW0] at hc0 hb0 hs0
  have hc1 := heap_alloc_new W0 (.cells zLk 79)
  have ht1 := there_new W0 zLk 79 (looksC r).size (Nat.le_refl 18)
  have hk := Below.heap_alloc W0 (.cells zLk 79) w.heap.size (by omega)
  have hb1 := hb0.alloc (by omega) (.cells zLk 79)
  obtain ⟨W, hW⟩ : ∃ W, W = W0.alloc (.cells zLk 79) := ⟨_, rfl⟩
  rw [← hW] at hc1 ht1 hk hb1
  rw [hc0] at hk
  have c0 : W.cell? ⟨w.heap.size, 0, none⟩ = some (.int .u32 (r.1 : Int)) := cell_in hk rfl
  have c1 : W.cell? ⟨w.heap.size, 1, none⟩ = some (.int .u32 (r.2.1 : Int)) := cell_in hk rfl
  have c2 : W.cell? ⟨w.heap.size, 2, none⟩ = some (.int .u32 (r.2.2 : Int)) := cell_in hk rfl
  rw [hs0] at hc1 ht1
  have HEnd : Hid ((W.setCells (w.heap.size + 1) 0 (looksC r).toList).heap[w.heap.size + 1]? = some (.cells (looksC r) 79 (0, 0)) ∧ Below w.heap.size w (W.setCells (w.heap.size + 1) 0 (looksC r).toList)) :=
    Lib.hid ⟨by have := setCells_whole (W := W) (looksC r).toList 0 W _ hc1 rfl; simpa using this, setCells_below _ (by omega) _ 0 W hb1⟩
  have HT := Lib.hid ht1
  have HW := Lib.hid hW
  have HW0 := Lib.hid hW0
  have HI : Hid ((Try.prog.info? 79).map (·.size) = some (looksC r).size) := Lib.hid (by kernel_rfl)
  have HAl : Hid ((looksC r).all (·.oneCell') = true) := Lib.hid (by simp [Value.oneCell'])
  clear hc0 hb0 hs0 hc1 ht1 hk hb1 hW hW0
  go_enter Try.func40, Try.ntmps40
  go_upto_region 1 with fail
  rw [← HW0.out, ← HW.out]
  go_wp2_with (refine wpList_store_mid rfl 79 (.tmp 2) (.tmp 27) rfl (w.heap.size + 1) 0 (looksC r) rfl rfl HT.out HI.out HAl.out ?_)
  refine bodyPost_ret (results_cell_row rfl _ _ (w.heap.size + 1) 79 (looksC r) (0, 0) _ rfl HEnd.out.1 Try.underlying79 rfl (by kernel_rfl)) rfl ?_
  exact ⟨rfl, HEnd.out.2⟩
end Go.Proofs.Ytnmimagcmmdolaa
