/-
  WHAT A TABLE'S COUNTS ARE BEHIND A ROW'S BITS ARE CHANGED: plain mathematics.
-/
import Derived.Test.YtnmimagcmmdolaaTbInv
namespace Go.Proofs.Ytnmimagcmmdolaa
open Go.RowKit
set_option linter.unusedVariables false
set_option linter.unusedSimpArgs false

/-- Counts behind so many looks. -/
structure CntK (r : RowN) (by_ : Int) (pats : List RowN) (xs : RowN → List Nat) (lv : RowN → Int) (d0 d1 d2 : Int) (k : Nat) (s : CntS) : Prop where
  view : viewL s.ls = pats.map fun q => (xs q, if ∃ i, i < k ∧ q = lookN r i then lv q + by_ else lv q)
  f0 : s.e0 = if 0 < k ∧ (lv (lookN r 0) = 0 ∨ lv (lookN r 0) + by_ = 0) then d0 + by_ else d0
  f1 : s.e1 = if 1 < k ∧ (lv (lookN r 1) = 0 ∨ lv (lookN r 1) + by_ = 0) then d1 + by_ else d1
  f2 : s.e2 = if 2 < k ∧ (lv (lookN r 2) = 0 ∨ lv (lookN r 2) + by_ = 0) then d2 + by_ else d2
theorem viewL_set (l : List LsD) (k : Nat) (x : LsD) (v : Int) : viewL (l.set k { x with live := v }) = (viewL l).set k (x.xs, v) := by
  unfold viewL
  rw [List.map_set]
theorem cntK_step {r : RowN} {by_ : Int} {pats : List RowN} {xs : RowN → List Nat} {lv : RowN → Int} {d0 d1 d2 : Int} {k : Nat} {s : CntS} (hr : okLook r) (hk : k < 6) (hnd : pats.Nodup) (hin : ∀ i, i < 6 → lookN r i ∈ pats) (h : CntK r by_ pats xs lv d0 d1 d2 k s) :
    CntK r by_ pats xs lv d0 d1 d2 (k + 1) (cntStep pats r by_ s k) := by
  have hfresh : ¬ ∃ i, i < k ∧ lookN r k = lookN r i := fun ⟨i, hi, e⟩ => look_ne hr hk (by omega) (by omega) e
  have hsucc : ∀ q, (∃ i, i < k + 1 ∧ q = lookN r i) ↔ (∃ i, i < k ∧ q = lookN r i) ∨ q = lookN r k := fun q => by
    constructor
    · rintro ⟨i, hi, e⟩
      by_cases hik : i = k
      · subst hik; exact .inr e
      · exact .inl ⟨i, by omega, e⟩
    · rintro (⟨i, hi, e⟩ | e)
      · exact ⟨i, by omega, e⟩
      · exact ⟨k, by omega, e⟩
  obtain ⟨hv, f0, f1, f2⟩ := h
  have hlt := List.idxOf_lt_length_iff.2 (hin k hk)
  have hget : (viewL s.ls)[pats.idxOf (lookN r k)]? = some (xs (lookN r k), lv (lookN r k)) := by
    rw [hv, List.getElem?_map, List.getElem?_eq_getElem hlt, List.getElem_idxOf hlt]
    simp only [Option.map_some]
    rw [if_neg hfresh]
  obtain ⟨x, hx, hxe⟩ : ∃ x, s.ls[pats.idxOf (lookN r k)]? = some x ∧ (x.xs, x.live) = (xs (lookN r k), lv (lookN r k)) := by
    rw [List.getElem?_map] at hget
    cases hx : s.ls[pats.idxOf (lookN r k)]? with
    | none => rw [hx] at hget; cases hget
    | some x => rw [hx] at hget; exact ⟨x, rfl, by injection hget⟩
  obtain ⟨hx1, hx2⟩ : x.xs = xs (lookN r k) ∧ x.live = lv (lookN r k) := by injection hxe with a b; exact ⟨a, b⟩
  unfold cntStep
  rw [hx]
  dsimp only
  refine ⟨?_, ?_, ?_, ?_⟩
  · dsimp only
    rw [viewL_set, hv, hx1, hx2]
    apply map_at pats hnd
    · exact hin k hk
    · intro q
      by_cases hq : q = lookN r k
      · subst hq
        rw [if_pos rfl, if_pos ((hsucc _).2 (.inr rfl))]
      · rw [if_neg hq]
        by_cases h2 : ∃ i, i < k ∧ q = lookN r i
        · rw [if_pos h2, if_pos ((hsucc _).2 (.inl h2))]
        · rw [if_neg h2, if_neg (fun h => ((hsucc _).1 h).elim h2 hq)]
  all_goals
    dsimp only
    rw [hx2]
    first | rw [f0] | rw [f1] | rw [f2]
  · by_cases e : k = 0
    · subst e
      simp
    · simp [e, show 0 < k by omega]
  · by_cases e : k = 1
    · subst e
      simp
    · simp only [e, false_and, if_false]
      congr 1
      simp only [eq_iff_iff]
      constructor
      · rintro ⟨a, b⟩; exact ⟨by omega, b⟩
      · rintro ⟨a, b⟩; exact ⟨by omega, b⟩
  · by_cases e : k = 2
    · subst e
      simp
    · simp only [e, false_and, if_false]
      congr 1
      simp only [eq_iff_iff]
      constructor
      · rintro ⟨a, b⟩; exact ⟨by omega, b⟩
      · rintro ⟨a, b⟩; exact ⟨by omega, b⟩
theorem cntK_all {r : RowN} {by_ : Int} {pats : List RowN} {xs : RowN → List Nat} {lv : RowN → Int} {d0 d1 d2 : Int} {Ls : List LsD} (hr : okLook r) (hnd : pats.Nodup) (hin : ∀ i, i < 6 → lookN r i ∈ pats) (hV : viewL Ls = pats.map fun q => (xs q, lv q)) :
    ∀ k, k ≤ 6 → CntK r by_ pats xs lv d0 d1 d2 k (cntF pats r by_ ⟨Ls, d0, d1, d2⟩ k)
  | 0, _ => by
    refine ⟨?_, by rw [if_neg (fun h => by omega)]; rfl, by rw [if_neg (fun h => by omega)]; rfl, by rw [if_neg (fun h => by omega)]; rfl⟩
    show viewL Ls = _
    rw [hV]
    apply List.map_congr_left
    intro q hq
    rw [if_neg (fun ⟨i, hi, _⟩ => by omega)]
  | k + 1, hk => by
    rw [cntF_succ]
    exact cntK_step hr (by omega) hnd hin (cntK_all hr hnd hin hV k (by omega))

/-- Of a list of unlike things, one changes. -/
theorem countP_one {α : Type} [DecidableEq α] : ∀ (l : List α), l.Nodup → ∀ (p q : α → Bool) (a : α), a ∈ l → (∀ x ∈ l, x ≠ a → p x = q x) → l.countP q + (if p a = true then 1 else 0) = l.countP p + (if q a = true then 1 else 0)
  | [], _, p, q, a, ha, _ => absurd ha (by simp)
  | y :: l, hn, p, q, a, ha, he => by
    rw [List.nodup_cons] at hn
    rw [List.countP_cons, List.countP_cons]
    by_cases e : y = a
    · subst e
      have : l.countP q = l.countP p := by
        apply List.countP_congr
        intro x hx
        rw [he x (List.mem_cons_of_mem _ hx) (fun e => hn.1 (e ▸ hx))]
      rw [this]
      omega
    · have hm : a ∈ l := by
        rcases List.mem_cons.1 ha with h | h
        · exact absurd h.symm e
        · exact h
      have := countP_one l hn.2 p q a hm (fun x hx => he x (List.mem_cons_of_mem _ hx))
      rw [he y List.mem_cons_self e]
      omega
section
variable {R : List EntN} {pats : List RowN} {Ls : List LsD} {live d0 d1 d2 : Int}
theorem countP_set_at {R : List EntN} {n : Nat} {x y : EntN} (hx : R[n]? = some x) (p : EntN → Bool) : (R.set n y).countP p + (if p x = true then 1 else 0) = R.countP p + (if p y = true then 1 else 0) := by
  obtain ⟨hlt, hg⟩ := List.getElem?_eq_some_iff.1 hx
  rw [List.countP_set hlt, hg]
  by_cases h : p x = true
  · have : 0 < R.countP p := List.countP_pos_iff.2 ⟨x, List.mem_of_getElem? hx, h⟩
    rw [if_pos h]
    omega
  · rw [if_neg h]
    omega
theorem map_set_row {R : List EntN} {n : Nat} {x : EntN} (hx : R[n]? = some x) (b : Nat) : (R.set n (x.1, b)).map (·.1) = R.map (·.1) := by
  rw [List.map_set]
  obtain ⟨hlt, hg⟩ := List.getElem?_eq_some_iff.1 hx
  apply List.ext_getElem
  · simp
  · intro i h1 h2
    rw [List.getElem_set]
    split
    · rename_i e
      subst e
      rw [List.getElem_map, hg]
    · rfl
/-- A row's bits turn from none to some, or back, or neither. -/
theorem InvT.put (h : InvT R pats (viewL Ls) live d0 d1 d2) {n : Nat} {x : EntN} (hx : R[n]? = some x) (b : Nat) :
    InvT (R.set n (x.1, b)) pats (viewL (putC pats x b ⟨Ls, d0, d1, d2⟩).ls) (putL x b live) (putC pats x b ⟨Ls, d0, d1, d2⟩).e0 (putC pats x b ⟨Ls, d0, d1, d2⟩).e1 (putC pats x b ⟨Ls, d0, d1, d2⟩).e2 := by
  have hm := List.mem_of_getElem? hx
  have hr := h.nz x hm
  have hlk := h.looks x hm
  have hrows := map_set_row hx b
  have hmemR : ∀ y ∈ R.set n (x.1, b), ∃ z ∈ R, y.1 = z.1 := fun y hy => by
    rcases List.mem_or_eq_of_mem_set hy with hy | rfl
    · exact ⟨y, hy, rfl⟩
    · exact ⟨x, hm, rfl⟩
  have hset : (x.1, b) ∈ R.set n (x.1, b) := List.mem_of_getElem? (List.getElem?_set_self (List.getElem?_eq_some_iff.1 hx).1)
  have base : ∀ {V : VL} {l a0 a1 a2 : Int}, V = pats.map (fun q => (idxsF q (R.map (·.1)), ((cntQ q (R.set n (x.1, b)) : Nat) : Int))) → l = (((R.set n (x.1, b)).countP liveB : Nat) : Int) → a0 = ((distP 0 pats (R.set n (x.1, b)) : Nat) : Int) → a1 = ((distP 1 pats (R.set n (x.1, b)) : Nat) : Int) → a2 = ((distP 2 pats (R.set n (x.1, b)) : Nat) : Int) →
      InvT (R.set n (x.1, b)) pats V l a0 a1 a2 := fun hV hl h0 h1 h2 => by
    refine ⟨by rw [hrows]; exact h.nod, fun y hy => ?_, h.pnod, fun q => ?_, by rw [List.length_set]; exact h.plen, by rw [hrows]; exact hV, hl, h0, h1, h2⟩
    · obtain ⟨z, hz, e⟩ := hmemR y hy
      rw [e]
      exact h.nz z hz
    · rw [h.pin]
      constructor
      · rintro ⟨y, hy, i, hi, e⟩
        obtain ⟨j, hj⟩ := List.getElem?_of_mem hy
        by_cases e2 : n = j
        · subst e2
          rw [hx] at hj
          injection hj with hj
          subst hj
          exact ⟨_, hset, i, hi, e⟩
        · exact ⟨y, List.mem_of_getElem? (by rw [List.getElem?_set_ne e2]; exact hj), i, hi, e⟩
      · rintro ⟨y, hy, i, hi, e⟩
        obtain ⟨z, hz, e2⟩ := hmemR y hy
        exact ⟨z, hz, i, hi, by rw [← e2]; exact e⟩
  have hcnt : ∀ q, cntQ q (R.set n (x.1, b)) + (if (liveB x && fitB q x.1) = true then 1 else 0) = cntQ q R + (if (liveB (x.1, b) && fitB q x.1) = true then 1 else 0) := fun q => countP_set_at hx (fun x => liveB x && fitB q x.1)
  have hliv := countP_set_at (y := (x.1, b)) hx liveB
  have hL := h.live
  have hdis : ∀ i, i < 3 → distP i pats (R.set n (x.1, b)) + (if cntQ (lookN x.1 i) R ≠ 0 then 1 else 0) = distP i pats R + (if cntQ (lookN x.1 i) (R.set n (x.1, b)) ≠ 0 then 1 else 0) := fun i hi => by
    have := countP_one pats h.pnod (fun q => onePl i q && decide (cntQ q R ≠ 0)) (fun q => onePl i q && decide (cntQ q (R.set n (x.1, b)) ≠ 0)) (lookN x.1 i) (hlk i (by omega)) (fun q hq hne => by
      cases ho : onePl i q with
      | false => simp
      | true =>
        have hnf : fitB q x.1 = false := by
          cases hf : fitB q x.1 with
          | false => rfl
          | true =>
            obtain ⟨k, hk, rfl⟩ := look_of (h.part hq) hf
            obtain rfl := (onePl_look hr hi hk).1 ho
            exact absurd rfl hne
        have := hcnt q
        rw [hnf] at this
        simp at this
        rw [this])
    have ho : onePl i (lookN x.1 i) = true := (onePl_look hr hi (by omega)).2 rfl
    simp only [ho, Bool.true_and, decide_eq_true_eq] at this
    exact this
  have hfit : ∀ i, i < 6 → fitB (lookN x.1 i) x.1 = true := fun i hi => (look_part hr hi).2
  have hq : ∀ q ∈ pats, (∃ i, i < 6 ∧ q = lookN x.1 i) ↔ fitB q x.1 = true := fun q hq => by
    rw [look_iff hr]
    exact ⟨fun h => h.2, fun h2 => ⟨h.part hq, h2⟩⟩
  have H0 := h.e0
  have H1 := h.e1
  have H2 := h.e2
  have D0 := hdis 0 (by omega)
  have D1 := hdis 1 (by omega)
  have D2 := hdis 2 (by omega)
  have C0 := hcnt (lookN x.1 0)
  have C1 := hcnt (lookN x.1 1)
  have C2 := hcnt (lookN x.1 2)
  rw [hfit 0 (by omega)] at C0
  rw [hfit 1 (by omega)] at C1
  rw [hfit 2 (by omega)] at C2
  by_cases h0 : x.2 = 0
  · have hlx : liveB x = false := by simp [liveB, h0]
    by_cases hb : b = 0
    · have hly : liveB (x.1, b) = false := by simp [liveB, hb]
      have hC : putC pats x b ⟨Ls, d0, d1, d2⟩ = ⟨Ls, d0, d1, d2⟩ := by unfold putC; rw [if_neg (by simp [hb]), if_neg (by simp [h0])]
      have hPL : putL x b live = live := by unfold putL; rw [if_neg (by simp [hb]), if_neg (by simp [h0])]
      rw [hC, hPL]
      simp only [hlx, hly, Bool.false_and, Bool.true_and, Bool.and_true, Bool.false_eq_true, if_false, if_true, Nat.add_zero] at hcnt hliv C0 C1 C2
      refine base ?_ ?_ ?_ ?_ ?_
      · rw [h.view]
        apply List.map_congr_left
        intro q _
        rw [show cntQ q (R.set n (x.1, b)) = cntQ q R from hcnt q]
      · omega
      · rw [C0] at D0; show d0 = _; omega
      · rw [C1] at D1; show d1 = _; omega
      · rw [C2] at D2; show d2 = _; omega
    · have hly : liveB (x.1, b) = true := by simp [liveB, hb]
      have hC : putC pats x b ⟨Ls, d0, d1, d2⟩ = cntF pats x.1 1 ⟨Ls, d0, d1, d2⟩ 6 := by unfold putC; rw [if_pos ⟨h0, hb⟩]
      have hPL : putL x b live = live + 1 := by unfold putL; rw [if_pos ⟨h0, hb⟩]
      rw [hC, hPL]
      obtain ⟨kv, k0, k1, k2⟩ := cntK_all (by_ := 1) (xs := fun q => idxsF q (R.map (·.1))) (lv := fun q => ((cntQ q R : Nat) : Int)) (d0 := d0) (d1 := d1) (d2 := d2) hr h.pnod hlk h.view 6 (Nat.le_refl _)
      simp only [hlx, hly, Bool.false_and, Bool.true_and, Bool.and_true, Bool.false_eq_true, if_false, if_true, Nat.add_zero] at hcnt hliv C0 C1 C2
      refine base ?_ ?_ ?_ ?_ ?_
      · rw [kv]
        apply List.map_congr_left
        intro q hqm
        have := hcnt q
        by_cases hf : fitB q x.1 = true
        · rw [if_pos hf] at this
          rw [if_pos ((hq q hqm).2 hf), show cntQ q (R.set n (x.1, b)) = cntQ q R + 1 from this]
          rfl
        · rw [if_neg hf] at this
          rw [if_neg (fun h => hf ((hq q hqm).1 h)), show cntQ q (R.set n (x.1, b)) = cntQ q R from this]
      · omega
      · rw [k0]
        clear k0 k1 k2 kv
        split
        · rename_i hc
          rw [if_neg (by omega)] at D0
          rw [if_pos (by omega)] at D0
          omega
        · rename_i hc
          rw [if_pos (by omega)] at D0
          rw [if_pos (by omega)] at D0
          omega
      · rw [k1]
        clear k0 k1 k2 kv
        split
        · rename_i hc
          rw [if_neg (by omega)] at D1
          rw [if_pos (by omega)] at D1
          omega
        · rename_i hc
          rw [if_pos (by omega)] at D1
          rw [if_pos (by omega)] at D1
          omega
      · rw [k2]
        clear k0 k1 k2 kv
        split
        · rename_i hc
          rw [if_neg (by omega)] at D2
          rw [if_pos (by omega)] at D2
          omega
        · rename_i hc
          rw [if_pos (by omega)] at D2
          rw [if_pos (by omega)] at D2
          omega
  · have hlx : liveB x = true := by simp [liveB, h0]
    by_cases hb : b = 0
    · have hly : liveB (x.1, b) = false := by simp [liveB, hb]
      have hC : putC pats x b ⟨Ls, d0, d1, d2⟩ = cntF pats x.1 (-1) ⟨Ls, d0, d1, d2⟩ 6 := by unfold putC; rw [if_neg (by simp [h0]), if_pos ⟨h0, hb⟩]
      have hPL : putL x b live = live + -1 := by unfold putL; rw [if_neg (by simp [h0]), if_pos ⟨h0, hb⟩]
      rw [hC, hPL]
      obtain ⟨kv, k0, k1, k2⟩ := cntK_all (by_ := -1) (xs := fun q => idxsF q (R.map (·.1))) (lv := fun q => ((cntQ q R : Nat) : Int)) (d0 := d0) (d1 := d1) (d2 := d2) hr h.pnod hlk h.view 6 (Nat.le_refl _)
      simp only [hlx, hly, Bool.false_and, Bool.true_and, Bool.and_true, Bool.false_eq_true, if_false, if_true, Nat.add_zero] at hcnt hliv C0 C1 C2
      refine base ?_ ?_ ?_ ?_ ?_
      · rw [kv]
        apply List.map_congr_left
        intro q hqm
        have := hcnt q
        by_cases hf : fitB q x.1 = true
        · rw [if_pos hf] at this
          rw [if_pos ((hq q hqm).2 hf)]
          congr 1
          omega
        · rw [if_neg hf] at this
          rw [if_neg (fun h => hf ((hq q hqm).1 h))]
          congr 1
          omega
      · omega
      · rw [k0]
        clear k0 k1 k2 kv
        split
        · rename_i hc
          rw [if_pos (by omega)] at D0
          rw [if_neg (by omega)] at D0
          omega
        · rename_i hc
          rw [if_pos (by omega)] at D0
          rw [if_pos (by omega)] at D0
          omega
      · rw [k1]
        clear k0 k1 k2 kv
        split
        · rename_i hc
          rw [if_pos (by omega)] at D1
          rw [if_neg (by omega)] at D1
          omega
        · rename_i hc
          rw [if_pos (by omega)] at D1
          rw [if_pos (by omega)] at D1
          omega
      · rw [k2]
        clear k0 k1 k2 kv
        split
        · rename_i hc
          rw [if_pos (by omega)] at D2
          rw [if_neg (by omega)] at D2
          omega
        · rename_i hc
          rw [if_pos (by omega)] at D2
          rw [if_pos (by omega)] at D2
          omega
    · have hly : liveB (x.1, b) = true := by simp [liveB, hb]
      have hC : putC pats x b ⟨Ls, d0, d1, d2⟩ = ⟨Ls, d0, d1, d2⟩ := by unfold putC; rw [if_neg (by simp [h0]), if_neg (by simp [hb])]
      have hPL : putL x b live = live := by unfold putL; rw [if_neg (by simp [h0]), if_neg (by simp [hb])]
      rw [hC, hPL]
      simp only [hlx, hly, Bool.false_and, Bool.true_and, Bool.and_true, Bool.false_eq_true, if_false, if_true, Nat.add_zero] at hcnt hliv C0 C1 C2
      refine base ?_ ?_ ?_ ?_ ?_
      · rw [h.view]
        apply List.map_congr_left
        intro q _
        have := hcnt q
        congr 2
        omega
      · omega
      · have e : cntQ (lookN x.1 0) (R.set n (x.1, b)) = cntQ (lookN x.1 0) R := by omega
        rw [e] at D0; show d0 = _; omega
      · have e : cntQ (lookN x.1 1) (R.set n (x.1, b)) = cntQ (lookN x.1 1) R := by omega
        rw [e] at D1; show d1 = _; omega
      · have e : cntQ (lookN x.1 2) (R.set n (x.1, b)) = cntQ (lookN x.1 2) R := by omega
        rw [e] at D2; show d2 = _; omega
/-- No number is far. -/
theorem InvT.near (h : InvT R pats (viewL Ls) live d0 d1 d2) (hf : R.length ≤ 1000000000) : (-1000000000000 ≤ live ∧ live ≤ 1000000000000) ∧ Near 1000000000000 ⟨Ls, d0, d1, d2⟩ := by
  have hd : ∀ i, distP i pats R ≤ 6 * R.length := fun i => Nat.le_trans List.countP_le_length h.plen
  have a0 := hd 0
  have a1 := hd 1
  have a2 := hd 2
  have := h.live
  have hl : R.countP liveB ≤ R.length := List.countP_le_length
  have b0 := h.e0
  have b1 := h.e1
  have b2 := h.e2
  refine ⟨by omega, fun x hx => ?_, by dsimp only; omega, by dsimp only; omega, by dsimp only; omega⟩
  have hm : (x.xs, x.live) ∈ viewL Ls := List.mem_map.2 ⟨x, hx, rfl⟩
  rw [h.view] at hm
  obtain ⟨q, _, e⟩ := List.mem_map.1 hm
  injection e with _ e
  have := cntQ_le q R
  omega
theorem InvT.len (h : InvT R pats (viewL Ls) live d0 d1 d2) {x : LsD} (hx : x ∈ Ls) : x.xs.length ≤ R.length := by
  have hm : (x.xs, x.live) ∈ viewL Ls := List.mem_map.2 ⟨x, hx, rfl⟩
  rw [h.view] at hm
  obtain ⟨q, _, e⟩ := List.mem_map.1 hm
  injection e with e _
  rw [← e]
  have := idxsF_len q (R.map (·.1))
  rw [List.length_map] at this
  exact this
end
end Go.Proofs.Ytnmimagcmmdolaa
