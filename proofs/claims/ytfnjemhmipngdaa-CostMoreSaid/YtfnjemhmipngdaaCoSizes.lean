/-
  THE WALK OF CostSizes.
-/
import Derived.Test.YtfnjemhmipngdaaCoKnown
import Derived.Deep.RegionHeld3
namespace Go.Proofs.Ytfnjemhmipngdaa
open Go.RowKit
set_option linter.unusedVariables false
set_option linter.unusedSimpArgs false

theorem div_isN {x : Nat} (h : isN x = true) (d : Nat) : FloatKind.f64.format.div x d = none := by
  unfold isN at h
  unfold Ieee.Format.div
  cases hx : FloatKind.f64.format.read x with
  | nan s t => rfl
  | number s m i => rw [hx] at h; cases h
  | infinity s => rw [hx] at h; cases h
theorem div_like {x x' d y y' : Nat} (h : x = x' ∨ (isN x = true ∧ isN x' = true)) (h1 : DivR x d y) (h2 : DivR x' d y') : y = y' ∨ (isN y = true ∧ isN y' = true) := by
  rcases h with rfl | ⟨ha, hb⟩
  · rcases h1 with h1 | ⟨h1, n1⟩ <;> rcases h2 with h2 | ⟨h2, n2⟩
    · rw [h1] at h2
      exact .inl (Option.some.inj h2)
    · rw [h1] at h2; cases h2
    · rw [h1] at h2; cases h2
    · exact .inr ⟨n1, n2⟩
  · have e1 := div_isN ha d
    have e2 := div_isN hb d
    rcases h1 with h1 | ⟨h1, n1⟩
    · rw [e1] at h1; cases h1
    rcases h2 with h2 | ⟨h2, n2⟩
    · rw [e2] at h2; cases h2
    exact .inr ⟨n1, n2⟩
theorem chR_like {K K' : Int → Bool} {l : LookD} (hK : ∀ k, k < 3 → dvB K l k = dvB K' l k) : ∀ k, k ≤ 3 → ∀ x x', ChR K l k x → ChR K' l k x' → x = x' ∨ (isN x = true ∧ isN x' = true) := by
  intro k
  induction k with
  | zero =>
    intro _ x x' h h'
    have h : x = l.c := h
    have h' : x' = l.c := h'
    exact .inl (h.trans h'.symm)
  | succ k ih =>
    rintro hk x x' ⟨y, hy, s⟩ ⟨y', hy', s'⟩
    have hl := ih (by omega) y y' hy hy'
    rw [← hK k (by omega)] at s'
    rcases s with ⟨e, s⟩ | ⟨e, s⟩ <;> rcases s' with ⟨e', s'⟩ | ⟨e', s'⟩
    · exact div_like hl s s'
    · rw [e] at e'; cases e'
    · rw [e] at e'; cases e'
    · rw [s, s']; exact hl
theorem sizeR_like {K K' : Int → Bool} {l : LookD} (hK : ∀ k, k < 3 → dvB K l k = dvB K' l k) {r r' : Nat} (h : SizeR K l r) (h' : SizeR K' l r') : r = r' := by
  obtain ⟨x, hx, rfl⟩ := h
  obtain ⟨x', hx', rfl⟩ := h'
  rcases chR_like hK 3 (Nat.le_refl _) x x' hx hx' with rfl | ⟨a, b⟩
  · rfl
  · simp [numF, a, b]
theorem divR_is (x d : Nat) : ∃ y, DivR x d y := by
  cases h : FloatKind.f64.format.div x d with
  | some r => exact ⟨r, .inl h⟩
  | none => exact ⟨9221120237041090560, .inr ⟨h, by decide +kernel⟩⟩
theorem chR_is (K : Int → Bool) (l : LookD) : ∀ k, ∃ x, ChR K l k x
  | 0 => ⟨_, rfl⟩
  | k + 1 => by
    obtain ⟨y, hy⟩ := chR_is K l k
    cases h : dvB K l k with
    | true =>
      obtain ⟨x, hx⟩ := divR_is y (l.d k)
      exact ⟨x, y, hy, .inl ⟨h, hx⟩⟩
    | false => exact ⟨y, y, hy, .inr ⟨h, rfl⟩⟩
/-- The size that there is. -/
theorem sizeR_one (K : Int → Bool) (l : LookD) : ∃ q, SizeR K l q ∧ isN q = false ∧ ∀ r, SizeR K l r → r = q := by
  obtain ⟨x, hx⟩ := chR_is K l 3
  exact ⟨numF x, ⟨x, hx, rfl⟩, numF_ok x, fun r' h' => sizeR_like (fun _ _ => rfl) h' ⟨x, hx, rfl⟩⟩
theorem numsL_has (kb : List Bool) (k : Nat) (v : Int) (hv : 0 ≤ v) : amongB (nthI (numsL kb k)) (numsL kb k).length v = (decide (v < k) && kb.getD v.toNat false) := by
  obtain ⟨m, rfl⟩ := Int.eq_ofNat_of_zero_le hv
  rw [Int.toNat_natCast]
  have h : amongB (nthI (numsL kb k)) (numsL kb k).length (m : Int) = decide (m ∈ numsL kb k) := by
    generalize numsL kb k = l
    unfold amongB
    by_cases hm : m ∈ l
    · rw [decide_eq_true hm, List.any_eq_true]
      obtain ⟨j, hj⟩ := List.getElem?_of_mem hm
      refine ⟨j, by simpa using (List.getElem?_eq_some_iff.1 hj).1, ?_⟩
      unfold nthI
      rw [List.getD_eq_getElem?_getD, hj]
      simp
    · rw [decide_eq_false hm, List.any_eq_false]
      intro j hj hje
      apply hm
      unfold nthI at hje
      have hj : j < l.length := by simpa using hj
      rw [List.getD_eq_getElem?_getD, List.getElem?_eq_getElem hj] at hje
      have : l[j] = m := by
        have := of_decide_eq_true hje
        dsimp only [Option.getD_some] at this
        omega
      exact this ▸ List.getElem_mem hj
  rw [h]
  unfold numsL
  by_cases h1 : m < k
  · have : decide ((m : Int) < (k : Int)) = true := decide_eq_true (by omega)
    rw [this]
    cases hb : kb.getD m false <;> rw [List.getD_eq_getElem?_getD] at hb <;> simp [List.mem_filter, h1, hb]
  · have : decide ((m : Int) < (k : Int)) = false := decide_eq_false (by omega)
    rw [this]
    simp [List.mem_filter, h1]
theorem dv_same (kb : List Bool) (l : LookD) (k : Nat) : dvB (knB kb) l k = dvB (knN (numsL kb kb.length)) l k := by
  unfold dvB
  by_cases h : 0 ≤ l.v k
  · have e : knN (numsL kb kb.length) (l.v k) = knB kb (l.v k) := numsL_has kb kb.length (l.v k) h
    rw [e]
  · rw [decide_eq_false h]
    rfl
theorem cs_of {W0 U : World} {n0 : Nat} {l : LookD} (h : W0.heap[n0]? = some (lookO l)) (hB : Below W0.heap.size W0 U) :
    U.cell? ⟨n0, 0, none⟩ = some (fV l.c) ∧ U.cell? ⟨n0, 1, none⟩ = some (.int .i64 l.v0) ∧ U.cell? ⟨n0, 2, none⟩ = some (.int .i64 l.v1) ∧ U.cell? ⟨n0, 3, none⟩ = some (.int .i64 l.v2) ∧ U.cell? ⟨n0, 4, none⟩ = some (fV l.d0) ∧ U.cell? ⟨n0, 5, none⟩ = some (fV l.d1) ∧ U.cell? ⟨n0, 6, none⟩ = some (fV l.d2) ∧ Below W0.heap.size W0 U := by
  have e : U.heap[n0]? = some (lookO l) := (hB.block n0 (Array.getElem?_eq_some_iff.1 h).1).trans h
  exact ⟨cell_in e rfl, cell_in e rfl, cell_in e rfl, cell_in e rfl, cell_in e rfl, cell_in e rfl, cell_in e rfl, hB⟩
theorem cs_low {W0 u : World} {n0 : Nat} {l : LookD} (h : u.cell? ⟨n0, 0, none⟩ = some (fV l.c) ∧ u.cell? ⟨n0, 1, none⟩ = some (.int .i64 l.v0) ∧ u.cell? ⟨n0, 2, none⟩ = some (.int .i64 l.v1) ∧ u.cell? ⟨n0, 3, none⟩ = some (.int .i64 l.v2) ∧ u.cell? ⟨n0, 4, none⟩ = some (fV l.d0) ∧ u.cell? ⟨n0, 5, none⟩ = some (fV l.d1) ∧ u.cell? ⟨n0, 6, none⟩ = some (fV l.d2) ∧ Below W0.heap.size W0 u) : Below W0.heap.size W0 u := h.2.2.2.2.2.2.2
theorem cs_step {W0 u v : World} {n0 : Nat} {l : LookD} (h : u.cell? ⟨n0, 0, none⟩ = some (fV l.c) ∧ u.cell? ⟨n0, 1, none⟩ = some (.int .i64 l.v0) ∧ u.cell? ⟨n0, 2, none⟩ = some (.int .i64 l.v1) ∧ u.cell? ⟨n0, 3, none⟩ = some (.int .i64 l.v2) ∧ u.cell? ⟨n0, 4, none⟩ = some (fV l.d0) ∧ u.cell? ⟨n0, 5, none⟩ = some (fV l.d1) ∧ u.cell? ⟨n0, 6, none⟩ = some (fV l.d2) ∧ Below W0.heap.size W0 u) (k : Below u.heap.size u v) : Below W0.heap.size W0 v := (cs_low h).trans (k.mono (cs_low h).size)
set_option maxRecDepth 100000 in
set_option maxHeartbeats 16000000 in
theorem costSizes_walk (l : LookD) (ao : Option Addr) (cap : Nat) (kb : List Bool) (w : World) (hkb : ElR Value.bool w ao kb) : Calls Try.prog 3 #[lookV l, .slice ao kb.length cap] w fun e w' => e = .returned (.bool true) ∧ Below w.heap.size w w' := by
  have HB1 := Lib.hid ((Below.refl w.heap.size w).alloc (Nat.le_refl _) (lookO l))
  have hkb1 := hkb.below HB1.out
  have hc0 := heap_alloc_new w (lookO l)
  obtain ⟨W, hW⟩ : ∃ W, W = w.alloc (lookO l) := ⟨_, rfl⟩
  rw [← hW] at HB1 hc0 hkb1
  obtain ⟨n0, hn0⟩ : ∃ n0, n0 = w.heap.size := ⟨_, rfl⟩
  rw [← hn0] at hc0
  have HW := Lib.hid hW
  have HN0 := Lib.hid hn0
  have HK := Lib.hid hkb1
  have HC0 := Lib.hid hc0
  have HKn := Lib.hid known_any
  clear hW hn0 hkb hkb1 hc0
  by_cases hl : 100 < kb.length
  · have e0 : decide ((kb.length : Int) > 100) = true := decide_eq_true (by omega)
    have e0' : decide ((100 : Int) < kb.length) = true := decide_eq_true (by omega)
    go_enter Try.func3, Try.ntmps3
    go_upto_region 1 with fail
    rw [← HW.out, ← HN0.out]
    go_wp2_with (go_at_call 6; refine (HKn.out _).mono ?_; rintro e w' ⟨rfl, hY⟩; replace hY := Lib.hid hY)
    go_ret
    exact ⟨rfl, HB1.out.trans (hY.out.mono HB1.out.size)⟩
  · have e0 : decide ((kb.length : Int) > 100) = false := decide_eq_false (by omega)
    have e0' : decide ((100 : Int) < kb.length) = false := decide_eq_false (by omega)
    obtain ⟨q, hqs, hq0, hq⟩ := sizeR_one (knB kb) l
    have HS : Hid (∀ U, Below W.heap.size W U → Calls Try.prog 8 #[lookV l, .slice ao kb.length cap] U fun e w' => e = .returned (fV q) ∧ Below U.heap.size U w') := Lib.hid fun U hU => (size_any l ao cap kb U (HK.out.below hU)).mono (by
      rintro e w' ⟨⟨r, rfl, hr⟩, hB⟩
      exact ⟨by rw [hq r hr], hB⟩)
    have HNu : Hid (∀ U, Below W.heap.size W U → Calls Try.prog 10 #[.slice ao kb.length cap] U fun e w' => (∃ ao' cap', e = .returned (.slice ao' (numsL kb kb.length).length cap') ∧ ElR intN w' ao' (numsL kb kb.length)) ∧ Below U.heap.size U w') := Lib.hid fun U hU => numbers_any ao cap kb U (HK.out.below hU) (by omega)
    have HR : Hid (∀ ao' cap' U, ElR intN U ao' (numsL kb kb.length) → Calls Try.prog 9 #[lookV l, .slice ao' (numsL kb kb.length).length cap'] U fun e w' => e = .returned (fV q) ∧ Below U.heap.size U w') := Lib.hid fun ao' cap' U hU => (rsize_any l ao' cap' (numsL kb kb.length) U hU (by have := numsL_len kb kb.length; omega)).mono (by
      rintro e w' ⟨⟨r, rfl, hr⟩, hB⟩
      exact ⟨by rw [sizeR_like (fun k _ => dv_same kb l k) hqs hr], hB⟩)
    have HBi : Hid (∀ U, Calls Try.prog 7 #[fV q, fV q] U fun e w' => e = .returned (.bool true) ∧ w' = U) := Lib.hid fun U => bits_same q hq0 U
    have hdr : Below W.heap.size W W.drew := (Below.refl _ _).drew
    have HSt := Lib.hid (cs_of HC0.out hdr)
    clear hq hq0 hdr hqs
    generalize numsL kb kb.length = nl at *
    go_enter Try.func3, Try.ntmps3
    go_upto_region 1 with fail
    rw [← HW.out, ← HN0.out]
    go_upto_region 3 with fail
    go_region_held3 (fun W' => W'.cell? ⟨n0, 0, none⟩ = some (fV l.c) ∧ W'.cell? ⟨n0, 1, none⟩ = some (.int .i64 l.v0) ∧ W'.cell? ⟨n0, 2, none⟩ = some (.int .i64 l.v1) ∧ W'.cell? ⟨n0, 3, none⟩ = some (.int .i64 l.v2) ∧ W'.cell? ⟨n0, 4, none⟩ = some (fV l.d0) ∧ W'.cell? ⟨n0, 5, none⟩ = some (fV l.d1) ∧ W'.cell? ⟨n0, 6, none⟩ = some (fV l.d2) ∧ Below W.heap.size W W') ((first | assumption | exact HSt.out | exact cs_of HC0.out (cs_step (by assumption) (by assumption)))) (first
      | (go_at_call 8; (with_reducible refine (HS.out _ (cs_low (by assumption))).mono ?_); rintro e y1 ⟨rfl, hY1⟩; try (have HN2 := Lib.hid (HN1.out.below hY1)))
      | (go_at_call 10; (with_reducible refine (HNu.out _ (cs_low (by assumption))).mono ?_); rintro e y2 ⟨⟨ao', cap', rfl, hE⟩, hY2⟩; have HN1 := Lib.hid hE; clear hE)
      | (go_at_call 9; (first | (with_reducible refine (HR.out _ _ _ HN2.out).mono ?_) | (with_reducible refine (HR.out _ _ _ HN1.out).mono ?_)); rintro e y3 ⟨rfl, hY3⟩)
      | (go_at_call 7; (with_reducible refine (HBi.out _).mono ?_); rintro e y4 ⟨rfl, rfl⟩)
      | (go_at_call 6; (with_reducible refine (HKn.out _).mono ?_); rintro e y5 ⟨rfl, hY5⟩))
    rename_i hHeld
    rename World => wq
    have hbq := cs_low hHeld
    have HBq := Lib.hid hbq
    clear hHeld hbq
    go_wp2
    go_ret
    exact ⟨rfl, HB1.out.trans (HBq.out.mono HB1.out.size)⟩
end Go.Proofs.Ytfnjemhmipngdaa
