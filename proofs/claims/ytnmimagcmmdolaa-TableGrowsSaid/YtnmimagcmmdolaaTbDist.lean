/-
  HOW MANY NUMBERS OCCUR AT A PLACE: counted by patterns, counted by rows.
-/
import Derived.Test.YtnmimagcmmdolaaTbTab
namespace Go.Proofs.Ytnmimagcmmdolaa
open Go.RowKit
set_option linter.unusedVariables false
set_option linter.unusedSimpArgs false

def firstB (R : List EntN) (i n : Nat) : Bool := match R[n]? with
  | some x => liveB x && (List.range n).all fun k => match R[k]? with
    | some y => !liveB y || atN y.1 i != atN x.1 i
    | none => true
  | none => false
theorem distR_eq (R : List EntN) (i : Nat) : distR R i = (List.range R.length).countP (firstB R i) := rfl
theorem fit_one {x y : RowN} (hx : okLook x) {i : Nat} (hi : i < 3) : fitB (lookN x i) y = true ↔ atN y i = atN x i := by
  obtain ⟨h1, h2, h3⟩ := hx
  rw [fitB_iff]
  obtain rfl | rfl | rfl : i = 0 ∨ i = 1 ∨ i = 2 := by omega
  all_goals simp [lookN, atN, h1, h2, h3, eq_comm]
theorem cntQ_take (q : RowN) (R : List EntN) (k : Nat) (x : EntN) (hx : R[k]? = some x) : cntQ q (R.take (k + 1)) = cntQ q (R.take k) + (if (liveB x && fitB q x.1) = true then 1 else 0) := by
  unfold cntQ
  rw [List.take_add_one, hx, List.countP_append]
  simp [List.countP_cons]
theorem first_iff {R : List EntN} (hz : ∀ x ∈ R, okLook x.1) {i : Nat} (hi : i < 3) {k : Nat} {x : EntN} (hx : R[k]? = some x) : firstB R i k = true ↔ liveB x = true ∧ cntQ (lookN x.1 i) (R.take k) = 0 := by
  unfold firstB
  rw [hx]
  dsimp only
  rw [Bool.and_eq_true]
  have hxz := hz x (List.mem_of_getElem? hx)
  have : ((List.range k).all fun k => match R[k]? with
    | some y => !liveB y || atN y.1 i != atN x.1 i
    | none => true) = true ↔ cntQ (lookN x.1 i) (R.take k) = 0 := by
    rw [List.all_eq_true]
    unfold cntQ
    rw [List.countP_eq_zero]
    constructor
    · intro h y hy
      obtain ⟨j, hj⟩ := List.getElem?_of_mem hy
      have hjk : j < k := by
        have := (List.getElem?_eq_some_iff.1 hj).1
        rw [List.length_take] at this
        omega
      rw [List.getElem?_take_of_lt hjk] at hj
      have := h j (List.mem_range.2 hjk)
      rw [hj] at this
      dsimp only at this
      intro hc
      rw [Bool.and_eq_true, fit_one hxz hi] at hc
      rw [hc.1, hc.2] at this
      simp at this
    · intro h j hj
      rw [List.mem_range] at hj
      cases hy : R[j]? with
      | none => rfl
      | some y =>
        dsimp only
        have := h y (List.mem_of_getElem? (by rw [List.getElem?_take_of_lt hj]; exact hy))
        rw [Bool.and_eq_true, fit_one hxz hi] at this
        cases hl : liveB y with
        | false => simp
        | true =>
          simp only [Bool.not_true, Bool.false_or, bne_iff_ne]
          exact fun e => this ⟨hl, e⟩
  rw [this]
theorem distP_take {R : List EntN} {pats : List RowN} (hnd : pats.Nodup) (hz : ∀ x ∈ R, okLook x.1) (hpart : ∀ q ∈ pats, partL q) (hlk : ∀ x ∈ R, ∀ i, i < 6 → lookN x.1 i ∈ pats) {i : Nat} (hi : i < 3) :
    ∀ k, k ≤ R.length → pats.countP (fun q => onePl i q && decide (cntQ q (R.take k) ≠ 0)) = (List.range k).countP (firstB R i)
  | 0, _ => by
    rw [List.range_zero, List.countP_nil, List.countP_eq_zero]
    intro q _
    simp [cntQ]
  | k + 1, hk => by
    obtain ⟨x, hx⟩ : ∃ x, R[k]? = some x := ⟨_, List.getElem?_eq_getElem (by omega)⟩
    have hm := List.mem_of_getElem? hx
    have hr := hz x hm
    have ih := distP_take hnd hz hpart hlk hi k (by omega)
    have ho : onePl i (lookN x.1 i) = true := (onePl_look hr hi (by omega)).2 rfl
    have hc := countP_one pats hnd (fun q => onePl i q && decide (cntQ q (R.take k) ≠ 0)) (fun q => onePl i q && decide (cntQ q (R.take (k + 1)) ≠ 0)) (lookN x.1 i) (hlk x hm i (by omega)) (fun q hq hne => by
      cases ho : onePl i q with
      | false => simp
      | true =>
        have hnf : fitB q x.1 = false := by
          cases hf : fitB q x.1 with
          | false => rfl
          | true =>
            obtain ⟨j, hj, rfl⟩ := look_of (hpart q hq) hf
            obtain rfl := (onePl_look hr hi hj).1 ho
            exact absurd rfl hne
        rw [cntQ_take q R k x hx, hnf]
        simp)
    simp only [ho, Bool.true_and, decide_eq_true_eq] at hc
    rw [cntQ_take (lookN x.1 i) R k x hx] at hc
    rw [(look_part hr (show i < 6 by omega)).2, Bool.and_true] at hc
    rw [List.range_succ, List.countP_append, List.countP_singleton, ← ih]
    have hf := first_iff hz hi hx
    by_cases hl : liveB x = true
    · rw [if_pos hl] at hc
      by_cases h0 : cntQ (lookN x.1 i) (R.take k) = 0
      · rw [if_pos (hf.2 ⟨hl, h0⟩)]
        rw [if_neg (by omega), if_pos (by omega)] at hc
        omega
      · rw [if_neg (fun h => h0 (hf.1 h).2)]
        rw [if_pos h0, if_pos (by omega)] at hc
        omega
    · rw [if_neg hl] at hc
      rw [if_neg (fun h => hl (hf.1 h).1)]
      simp only [Nat.add_zero] at hc
      omega
theorem distP_eq {R : List EntN} {pats : List RowN} {V : VL} {live d0 d1 d2 : Int} (h : InvT R pats V live d0 d1 d2) {i : Nat} (hi : i < 3) : distP i pats R = distR R i := by
  have := distP_take h.pnod h.nz (fun q hq => h.part hq) h.looks hi R.length (Nat.le_refl _)
  rw [List.take_length] at this
  exact this
section
variable {B : Nat} {Gz : GzT} {W U w : World} {S : Nat → Prop} {tb : Nat} {R : List EntN}
def distI (R : List EntN) (p : Int) : Nat := if p < 0 ∨ 2 < p then 0 else distR R p.toNat
theorem TabI.dist (h : TabI B Gz w S tb R) (p : Int) : Calls Try.prog 26 #[tabP tb, .int .i64 p] w fun e w' => e = .returned (.int .i64 ((distI R p : Nat) : Int)) ∧ w = w' := by
  obtain ⟨pats, Ls, live, d0, d1, d2, ra, rc, nb, pb, la, lc, h1, hi, _⟩ := h
  have e : ((distI R p : Nat) : Int) = distO d0 d1 d2 p := by
    unfold distI distO
    rw [hi.e0, hi.e1, hi.e2, distP_eq hi (by omega), distP_eq hi (by omega), distP_eq hi (by omega)]
    by_cases hp : p < 0 ∨ 2 < p
    · rw [if_pos hp, if_neg (by omega), if_neg (by omega), if_neg (by omega)]
      rfl
    · rw [if_neg hp]
      obtain rfl | rfl | rfl : p = 0 ∨ p = 1 ∨ p = 2 := by omega
      · rfl
      · rfl
      · rfl
  rw [e]
  exact tbDistinct_any h1 p
end
end Go.Proofs.Ytnmimagcmmdolaa
