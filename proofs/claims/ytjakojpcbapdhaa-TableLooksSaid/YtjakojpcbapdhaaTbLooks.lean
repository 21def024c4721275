/-
  THE WALK OF TableLooks.
-/
import Derived.Test.YtjakojpcbapdhaaTbPlays
namespace Go.Proofs.Ytjakojpcbapdhaa
open Go.RowKit Go.Shelf
set_option linter.unusedVariables false
set_option linter.unusedSimpArgs false

theorem andB_all : ∀ u, u < 256 → andB u 255 = u := by decide +kernel
/-- All that a look finds are as many as are counted. -/
theorem mtK_cnt {R : List EntN} (hB : ∀ x ∈ R, x.2 < 256) (q : RowN) : ∀ k, k ≤ R.length → (mtK R q 0 (R.length : Int) 255 k).length = cntQ q (R.take k)
  | 0, _ => by simp [mtK, cntQ]
  | k + 1, hk => by
    obtain ⟨x, hx⟩ : ∃ x, R[k]? = some x := ⟨_, List.getElem?_eq_getElem (by omega)⟩
    have ih := mtK_cnt hB q k (by omega)
    have hx2 := hB x (List.mem_of_getElem? hx)
    have hm : mtB R q 0 (R.length : Int) 255 k = (liveB x && fitB q x.1) := by
      unfold mtB liveB
      rw [hx, decide_eq_true (by omega), decide_eq_true (by omega)]
      dsimp only
      rw [andB_all _ hx2]
      rfl
    rw [mtK_succ, cntQ_take q R k x hx, hm]
    by_cases h : (liveB x && fitB q x.1) = true
    · rw [if_pos h, if_pos h, List.length_append, ih]
      rfl
    · rw [if_neg h, if_neg h, ih]
      rfl
theorem matR_cnt {R : List EntN} (hB : ∀ x ∈ R, x.2 < 256) (q : RowN) : (matR R q 0 (R.length : Int) 255).length = cntQ q R := by
  have := mtK_cnt hB q R.length (Nat.le_refl _)
  rwa [List.take_length] at this
/-- While a look is told three times: the look's cells, and what lay. -/
abbrev LookP (w9 : World) (p wb : Nat) (x : RowN) (ra : Option Addr) (n rc : Nat) (U : World) : Prop := U.cell? ⟨p, 0, none⟩ = some (.int .u32 (x.1 : Int)) ∧ U.cell? ⟨p, 1, none⟩ = some (.int .u32 (x.2.1 : Int)) ∧ U.cell? ⟨p, 2, none⟩ = some (.int .u32 (x.2.2 : Int)) ∧ U.cell? ⟨wb, 0, none⟩ = some (.slice ra n rc) ∧ Below w9.heap.size w9 U
theorem LookP.step {w9 U V : World} {p wb : Nat} {x : RowN} {ra : Option Addr} {n rc : Nat} (h : LookP w9 p wb x ra n rc U) (k : Below U.heap.size U V) : LookP w9 p wb x ra n rc V :=
  ⟨cellB k h.1, cellB k h.2.1, cellB k h.2.2.1, cellB k h.2.2.2.1, h.2.2.2.2.trans (k.mono h.2.2.2.2.size)⟩
theorem LookP.start {w9 : World} {p wb : Nat} {x : RowN} {ra : Option Addr} {n rc : Nat} (h : w9.heap[p]? = some (.cells (rowC x) 34 (0, 0))) (hw : w9.cell? ⟨wb, 0, none⟩ = some (.slice ra n rc)) : LookP w9 p wb x ra n rc w9 :=
  ⟨cell_in h rfl, cell_in h rfl, cell_in h rfl, hw, Below.refl _ _⟩
theorem PlayI.rows {w W : World} {B tb wb : Nat} {R : List EntN} (h : PlayI w B tb wb R W) : ∃ ra rc, W.cell? ⟨wb, 0, none⟩ = some (.slice ra R.length rc) := by
  obtain ⟨S, Q, h1, _⟩ := h
  obtain ⟨ra, rc, ba, bc, hm⟩ := h1.ref
  exact ⟨ra, rc, cell_in hm.blk rfl⟩
section
variable {w w9 : World} {B tb wb p n rc : Nat} {R : List EntN} {x : RowN} {ra : Option Addr}
theorem PlayI.lCount (h : PlayI w B tb wb R w9) (hx : okN x) (U : World) (hU : LookP w9 p wb x ra R.length rc U) : Calls Try.prog 12 #[tabP tb, .agg #[.int .u32 (x.1 : Int), .int .u32 (x.2.1 : Int), .int .u32 (x.2.2 : Int)]] U fun e w' => e = .returned (.int .i64 ((cntQ x R : Nat) : Int)) ∧ LookP w9 p wb x ra R.length rc w' := by
  obtain ⟨S, Q, h1, h2, h3, h4, _⟩ := h
  exact ((h1.tab.below hU.2.2.2.2).count x hx).mono fun e w' ⟨a, b⟩ => ⟨a, hU.step b⟩
theorem PlayI.lMatch (h : PlayI w B tb wb R w9) (hR : R.length ≤ 1000000) (U : World) (hU : LookP w9 p wb x ra R.length rc U) : Calls Try.prog 11 #[refP wb, .agg #[.int .u32 (x.1 : Int), .int .u32 (x.2.1 : Int), .int .u32 (x.2.2 : Int)], .int .i64 0, .int .i64 (R.length : Int), .int .u8 255] U fun e w' => (∃ ao cap, e = .returned (.slice ao (cntQ x R) cap)) ∧ LookP w9 p wb x ra R.length rc w' := by
  obtain ⟨S, Q, h1, h2, h3, h4, _⟩ := h
  refine ((h1.ref.below hU.2.2.2.2).match_ x 0 (R.length : Int) 255 (by decide) hR).mono ?_
  rintro e w' ⟨v, rfl, ⟨ao, cap, rfl, _⟩, b⟩
  rw [matR_cnt (fun y hy => (h1.tab.okR y hy).2)]
  exact ⟨⟨ao, cap, rfl⟩, hU.step b⟩
theorem PlayI.lMatches (h : PlayI w B tb wb R w9) (hx : okN x) (hR : R.length ≤ 1000000) (lo hi : Int) (b : Nat) (hb : b < 256) (U : World) (hU : LookP w9 p wb x ra R.length rc U) : Calls Try.prog 13 #[tabP tb, refP wb, .agg #[.int .u32 (x.1 : Int), .int .u32 (x.2.1 : Int), .int .u32 (x.2.2 : Int)], .int .i64 lo, .int .i64 hi, .int .u8 (b : Int)] U fun e w' => e = .returned (.bool true) ∧ LookP w9 p wb x ra R.length rc w' := by
  obtain ⟨S, Q, h1, h2, h3, h4, _⟩ := h
  have hs := hU.2.2.2.2.size
  exact (matches_any (h1.tab.below hU.2.2.2.2) (h1.ref.below hU.2.2.2.2) (by omega) x hx lo hi b hb hR).mono fun e w' ⟨a, b⟩ => ⟨a, hU.step b⟩
end
def zeroN (x : RowN) (k : Nat) : RowN := if k = 0 then (0, x.2.1, x.2.2) else if k = 1 then (x.1, 0, x.2.2) else (x.1, x.2.1, 0)
theorem rowC_zero (x : RowN) (k : Nat) (h : k < 3) : (rowC x).setIfInBounds k (.int .u32 0) = rowC (zeroN x k) := by
  match k, h with
  | 0, _ => rfl
  | 1, _ => rfl
  | 2, _ => rfl
theorem okN_zero {x : RowN} (h : okN x) (k : Nat) : okN (zeroN x k) := by
  obtain ⟨h1, h2, h3⟩ := h
  unfold zeroN
  split
  · exact ⟨Nat.zero_lt_of_lt h1, h2, h3⟩
  · split
    · exact ⟨h1, Nat.zero_lt_of_lt h2, h3⟩
    · exact ⟨h1, h2, Nat.zero_lt_of_lt h3⟩
end Go.Proofs.Ytjakojpcbapdhaa
