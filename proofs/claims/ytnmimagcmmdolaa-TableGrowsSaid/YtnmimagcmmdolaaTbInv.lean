/-
  WHAT A TABLE'S LISTS AND COUNTS ARE OF ITS ROWS, and that it stays so: plain mathematics.
-/
import Derived.Test.YtnmimagcmmdolaaTbEnter
namespace Go.Proofs.Ytnmimagcmmdolaa
open Go.RowKit
set_option linter.unusedVariables false
set_option linter.unusedSimpArgs false

abbrev VL := List (List Nat × Int)
def okLook (r : RowN) : Prop := r.1 ≠ 0 ∧ r.2.1 ≠ 0 ∧ r.2.2 ≠ 0
instance (r : RowN) : Decidable (okLook r) := inferInstanceAs (Decidable (_ ∧ _ ∧ _))
def fitB (q r : RowN) : Bool := (q.1 == 0 || q.1 == r.1) && ((q.2.1 == 0 || q.2.1 == r.2.1) && (q.2.2 == 0 || q.2.2 == r.2.2))
theorem fitB_iff {q r : RowN} : fitB q r = true ↔ (q.1 = 0 ∨ q.1 = r.1) ∧ (q.2.1 = 0 ∨ q.2.1 = r.2.1) ∧ (q.2.2 = 0 ∨ q.2.2 = r.2.2) := by
  unfold fitB
  simp
def partL (q : RowN) : Prop := knownN q = 1 ∨ knownN q = 2
theorem row_ext {q r : RowN} (h1 : q.1 = r.1) (h2 : q.2.1 = r.2.1) (h3 : q.2.2 = r.2.2) : q = r := by
  obtain ⟨a, b, c⟩ := q
  obtain ⟨x, y, z⟩ := r
  simp only at h1 h2 h3
  rw [h1, h2, h3]
theorem look_part {r : RowN} (h : okLook r) {i : Nat} (hi : i < 6) : partL (lookN r i) ∧ fitB (lookN r i) r = true := by
  obtain ⟨h1, h2, h3⟩ := h
  rw [fitB_iff]
  unfold partL knownN
  obtain rfl | rfl | rfl | rfl | rfl | rfl : i = 0 ∨ i = 1 ∨ i = 2 ∨ i = 3 ∨ i = 4 ∨ i = 5 := by omega
  all_goals simp [lookN, oneN, h1, h2, h3]
theorem look_of {q r : RowN} (hp : partL q) (hf : fitB q r = true) : ∃ i, i < 6 ∧ q = lookN r i := by
  rw [fitB_iff] at hf
  unfold partL knownN oneN at hp
  obtain ⟨f1, f2, f3⟩ := hf
  by_cases a : q.1 = 0
  · by_cases b : q.2.1 = 0
    · by_cases c : q.2.2 = 0
      · simp [a, b, c] at hp
      · exact ⟨2, by omega, row_ext a b (by simpa [lookN, c] using f3)⟩
    · by_cases c : q.2.2 = 0
      · exact ⟨1, by omega, row_ext a (by simpa [lookN, b] using f2) c⟩
      · exact ⟨5, by omega, row_ext a (by simpa [lookN, b] using f2) (by simpa [lookN, c] using f3)⟩
  · by_cases b : q.2.1 = 0
    · by_cases c : q.2.2 = 0
      · exact ⟨0, by omega, row_ext (by simpa [lookN, a] using f1) b c⟩
      · exact ⟨4, by omega, row_ext (by simpa [lookN, a] using f1) b (by simpa [lookN, c] using f3)⟩
    · by_cases c : q.2.2 = 0
      · exact ⟨3, by omega, row_ext (by simpa [lookN, a] using f1) (by simpa [lookN, b] using f2) c⟩
      · simp [a, b, c] at hp
theorem look_iff {q r : RowN} (h : okLook r) : (∃ i, i < 6 ∧ q = lookN r i) ↔ partL q ∧ fitB q r = true := by
  constructor
  · rintro ⟨i, hi, rfl⟩
    exact look_part h hi
  · rintro ⟨h1, h2⟩
    exact look_of h1 h2
theorem look_ne {r : RowN} (h : okLook r) {i j : Nat} (hi : i < 6) (hj : j < 6) (hne : i ≠ j) : lookN r i ≠ lookN r j := by
  obtain ⟨h1, h2, h3⟩ := h
  intro e
  obtain rfl | rfl | rfl | rfl | rfl | rfl : i = 0 ∨ i = 1 ∨ i = 2 ∨ i = 3 ∨ i = 4 ∨ i = 5 := by omega
  all_goals
    obtain rfl | rfl | rfl | rfl | rfl | rfl : j = 0 ∨ j = 1 ∨ j = 2 ∨ j = 3 ∨ j = 4 ∨ j = 5 := by omega
    all_goals first
      | exact hne rfl
      | (simp only [lookN, Prod.mk.injEq] at e; omega)

/-- The numbers of the rows that a look fits, among the first of them. -/
def idxsF (q : RowN) (rows : List RowN) : List Nat := (List.range rows.length).filter fun n => fitB q (rows.getD n (0, 0, 0))
theorem idxsF_snoc (q : RowN) (rows : List RowN) (r : RowN) : idxsF q (rows ++ [r]) = if fitB q r = true then idxsF q rows ++ [rows.length] else idxsF q rows := by
  unfold idxsF
  rw [List.length_append, List.length_singleton, List.range_succ, List.filter_append]
  have e : (List.range rows.length).filter (fun n => fitB q ((rows ++ [r]).getD n (0, 0, 0))) = (List.range rows.length).filter (fun n => fitB q (rows.getD n (0, 0, 0))) := by
    apply List.filter_congr
    intro n hn
    rw [List.mem_range] at hn
    rw [List.getD_eq_getElem?_getD, List.getD_eq_getElem?_getD, List.getElem?_append_left hn]
  rw [e]
  have e2 : (rows ++ [r]).getD rows.length (0, 0, 0) = r := by
    rw [List.getD_eq_getElem?_getD, List.getElem?_append_right (Nat.le_refl _)]
    simp
  by_cases h : fitB q r = true
  · rw [if_pos h, List.filter_cons, e2, if_pos h]
    rfl
  · rw [if_neg h, List.filter_cons, e2, if_neg h]
    simp
theorem idxsF_len (q : RowN) (rows : List RowN) : (idxsF q rows).length ≤ rows.length := by
  unfold idxsF
  have := List.length_filter_le (fun n => fitB q (rows.getD n (0, 0, 0))) (List.range rows.length)
  rw [List.length_range] at this
  exact this
theorem idxsF_lt {q : RowN} {rows : List RowN} {n : Nat} (h : n ∈ idxsF q rows) : n < rows.length ∧ fitB q (rows.getD n (0, 0, 0)) = true := by
  unfold idxsF at h
  rw [List.mem_filter, List.mem_range] at h
  exact h
theorem idxsF_nil {q : RowN} {rows : List RowN} (h : ∀ r ∈ rows, fitB q r = false) : idxsF q rows = [] := by
  unfold idxsF
  rw [List.filter_eq_nil_iff]
  intro n hn
  rw [List.mem_range] at hn
  rw [List.getD_eq_getElem?_getD, List.getElem?_eq_getElem hn]
  simp [h _ (List.getElem_mem hn)]

def liveB (x : EntN) : Bool := x.2 != 0
def cntQ (q : RowN) (R : List EntN) : Nat := R.countP fun x => liveB x && fitB q x.1
theorem cntQ_snoc (q : RowN) (R : List EntN) (r : RowN) : cntQ q (R ++ [(r, 0)]) = cntQ q R := by
  unfold cntQ
  rw [List.countP_append]
  simp [liveB]
theorem cntQ_nil {q : RowN} {R : List EntN} (h : ∀ x ∈ R, fitB q x.1 = false) : cntQ q R = 0 := by
  unfold cntQ
  rw [List.countP_eq_zero]
  intro x hx
  simp [h x hx]
theorem cntQ_le (q : RowN) (R : List EntN) : cntQ q R ≤ R.length := List.countP_le_length
/-- A pattern of one number, at a place. -/
def onePl (i : Nat) (q : RowN) : Bool := if i = 0 then q.1 != 0 && (q.2.1 == 0 && q.2.2 == 0) else if i = 1 then q.1 == 0 && (q.2.1 != 0 && q.2.2 == 0) else q.1 == 0 && (q.2.1 == 0 && q.2.2 != 0)
def distP (i : Nat) (P : List RowN) (R : List EntN) : Nat := P.countP fun q => onePl i q && decide (cntQ q R ≠ 0)
theorem onePl_look {r : RowN} (h : okLook r) {i : Nat} (hi : i < 3) {k : Nat} (hk : k < 6) : onePl i (lookN r k) = true ↔ k = i := by
  obtain ⟨h1, h2, h3⟩ := h
  unfold onePl
  obtain rfl | rfl | rfl : i = 0 ∨ i = 1 ∨ i = 2 := by omega
  all_goals
    obtain rfl | rfl | rfl | rfl | rfl | rfl : k = 0 ∨ k = 1 ∨ k = 2 ∨ k = 3 ∨ k = 4 ∨ k = 5 := by omega
    all_goals simp [lookN, h1, h2, h3]

structure InvT (R : List EntN) (pats : List RowN) (V : VL) (live d0 d1 d2 : Int) : Prop where
  nod : (R.map (·.1)).Nodup
  nz : ∀ x ∈ R, okLook x.1
  pnod : pats.Nodup
  pin : ∀ q, q ∈ pats ↔ ∃ x ∈ R, ∃ i, i < 6 ∧ q = lookN x.1 i
  plen : pats.length ≤ 6 * R.length
  view : V = pats.map fun q => (idxsF q (R.map (·.1)), ((cntQ q R : Nat) : Int))
  live : live = ((R.countP liveB : Nat) : Int)
  e0 : d0 = ((distP 0 pats R : Nat) : Int)
  e1 : d1 = ((distP 1 pats R : Nat) : Int)
  e2 : d2 = ((distP 2 pats R : Nat) : Int)
theorem InvT.empty : InvT [] [] [] 0 0 0 0 := ⟨List.nodup_nil, fun x hx => absurd hx (by simp), List.nodup_nil, fun q => by simp, Nat.le_refl _, rfl, rfl, rfl, rfl, rfl⟩
section
variable {R : List EntN} {pats : List RowN} {V : VL} {live d0 d1 d2 : Int}
theorem InvT.part (h : InvT R pats V live d0 d1 d2) {q : RowN} (hq : q ∈ pats) : partL q := by
  obtain ⟨x, hx, i, hi, rfl⟩ := (h.pin q).1 hq
  exact (look_part (h.nz x hx) hi).1
/-- What is no pattern fits no row. -/
theorem InvT.none (h : InvT R pats V live d0 d1 d2) {q : RowN} (hp : partL q) (hq : q ∉ pats) : ∀ x ∈ R, fitB q x.1 = false := fun x hx => by
  cases hf : fitB q x.1 with
  | false => rfl
  | true =>
    obtain ⟨i, hi, e⟩ := look_of hp hf
    exact absurd ((h.pin q).2 ⟨x, hx, i, hi, e⟩) hq
theorem InvT.looks (h : InvT R pats V live d0 d1 d2) : ∀ x ∈ R, ∀ i, i < 6 → lookN x.1 i ∈ pats := fun x hx i hi => (h.pin _).2 ⟨x, hx, i, hi, rfl⟩
end

/-- A row comes: the lists behind so many of its looks. -/
structure EntK (r : RowN) (n : Nat) (pats : List RowN) (xs : RowN → List Nat) (lv : RowN → Int) (k : Nat) (s : List RowN × VL) : Prop where
  view : s.2 = s.1.map fun q => (if ∃ i, i < k ∧ q = lookN r i then xs q ++ [n] else xs q, lv q)
  nod : s.1.Nodup
  mem : ∀ q, q ∈ s.1 ↔ q ∈ pats ∨ ∃ i, i < k ∧ q = lookN r i
  ext : ∃ e, s.1 = pats ++ e ∧ e.length ≤ k
theorem map_at {α β : Type} [BEq α] [LawfulBEq α] [DecidableEq α] (l : List α) (hn : l.Nodup) (f g : α → β) (a : α) (ha : a ∈ l) (b : β) (hg : ∀ x, g x = if x = a then b else f x) : (l.map f).set (l.idxOf a) b = l.map g := by
  apply List.ext_getElem
  · simp
  · intro i h1 h2
    simp only [List.length_set, List.length_map] at h1
    rw [List.getElem_set, List.getElem_map, List.getElem_map, hg]
    by_cases e : l.idxOf a = i
    · rw [if_pos e]
      have hlt := List.idxOf_lt_length_iff.2 ha
      have : l[i] = a := by
        subst e
        exact List.getElem_idxOf hlt
      rw [if_pos this]
    · rw [if_neg e]
      have : l[i] ≠ a := fun e2 => e (by rw [← e2]; exact hn.idxOf_getElem i h1)
      rw [if_neg this]
theorem entK_step {r : RowN} {n : Nat} {pats : List RowN} {xs : RowN → List Nat} {lv : RowN → Int} {k : Nat} {s : List RowN × VL} (hr : okLook r) (hk : k < 6) (h0 : ∀ i, i < 6 → lookN r i ∉ pats → xs (lookN r i) = [] ∧ lv (lookN r i) = 0) (h : EntK r n pats xs lv k s) :
    EntK r n pats xs lv (k + 1) (entStep r n s k) := by
  have hfresh : ¬ ∃ i, i < k ∧ lookN r k = lookN r i := fun ⟨i, hi, e⟩ => look_ne hr hk (by omega) (by omega) e
  have hsucc : ∀ q, (∃ i, i < k + 1 ∧ q = lookN r i) ↔ (∃ i, i < k ∧ q = lookN r i) ∨ q = lookN r k := fun q => by
    constructor
    · rintro ⟨i, hi, e⟩
      by_cases hik : i = k
      · subst hik; exact .inr e
      · exact .inl ⟨i, by omega, e⟩
    · rintro (⟨i, hi, e⟩ | e)
      · exact ⟨i, by omega, e⟩
      · exact ⟨k, by omega, e⟩
  obtain ⟨P, V⟩ := s
  obtain ⟨hv, hnd, hm, e, he, hel⟩ := h
  dsimp only at hv hnd hm he
  unfold entStep
  by_cases hin : lookN r k ∈ P
  · have hlt := List.idxOf_lt_length_iff.2 hin
    have hget : V[P.idxOf (lookN r k)]? = some (xs (lookN r k), lv (lookN r k)) := by
      rw [hv, List.getElem?_map, List.getElem?_eq_getElem hlt, List.getElem_idxOf hlt]
      simp only [Option.map_some]
      rw [if_neg hfresh]
    rw [if_pos hin]
    dsimp only
    rw [hget]
    dsimp only
    refine ⟨?_, hnd, fun q => ?_, e, he, by omega⟩
    · dsimp only
      rw [hv]
      apply map_at P hnd
      · exact hin
      · intro x
        by_cases hx : x = lookN r k
        · subst hx
          rw [if_pos rfl, if_pos ((hsucc _).2 (.inr rfl))]
        · rw [if_neg hx]
          by_cases hx2 : ∃ i, i < k ∧ x = lookN r i
          · rw [if_pos hx2, if_pos ((hsucc _).2 (.inl hx2))]
          · rw [if_neg hx2, if_neg (fun h => ((hsucc _).1 h).elim hx2 hx)]
    · dsimp only
      rw [hsucc, hm]
      constructor
      · rintro (h | h)
        · exact .inl h
        · exact .inr (.inl h)
      · rintro (h | h | rfl)
        · exact .inl h
        · exact .inr h
        · exact (hm _).1 hin
  · rw [if_neg hin]
    have hnp : lookN r k ∉ pats := fun h => hin ((hm _).2 (.inl h))
    obtain ⟨x0, l0⟩ := h0 k hk hnp
    refine ⟨?_, ?_, fun q => ?_, e ++ [lookN r k], ?_, ?_⟩
    · dsimp only
      rw [List.map_append, hv]
      congr 1
      · apply List.map_congr_left
        intro q hq
        have hx : q ≠ lookN r k := fun e => hin (e ▸ hq)
        by_cases hx2 : ∃ i, i < k ∧ q = lookN r i
        · rw [if_pos hx2, if_pos ((hsucc _).2 (.inl hx2))]
        · rw [if_neg hx2, if_neg (fun h => ((hsucc _).1 h).elim hx2 hx)]
      · rw [List.map_singleton, if_pos ((hsucc _).2 (.inr rfl)), x0, l0]
        rfl
    · dsimp only
      rw [List.nodup_append]
      exact ⟨hnd, (by simp), fun a ha b hb => by rw [List.mem_singleton.1 hb]; exact fun e => hin (e ▸ ha)⟩
    · dsimp only
      rw [List.mem_append, List.mem_singleton, hsucc, hm, or_assoc]
    · dsimp only
      rw [he, List.append_assoc]
    · rw [List.length_append]
      show e.length + 1 ≤ k + 1
      omega
theorem entK_all {r : RowN} {n : Nat} {pats : List RowN} {V : VL} {xs : RowN → List Nat} {lv : RowN → Int} (hr : okLook r) (hnd : pats.Nodup) (hV : V = pats.map fun q => (xs q, lv q)) (h0 : ∀ i, i < 6 → lookN r i ∉ pats → xs (lookN r i) = [] ∧ lv (lookN r i) = 0) :
    ∀ k, k ≤ 6 → EntK r n pats xs lv k (entF r n (pats, V) k)
  | 0, _ => by
    refine ⟨?_, hnd, fun q => ?_, [], by simp [entF], Nat.le_refl _⟩
    · show V = _
      rw [hV]
      apply List.map_congr_left
      intro q hq
      rw [if_neg (fun ⟨i, hi, _⟩ => by omega)]
    · show q ∈ pats ↔ _
      constructor
      · exact .inl
      · rintro (h | ⟨i, hi, _⟩)
        · exact h
        · omega
  | k + 1, hk => by
    rw [entF_succ]
    exact entK_step hr (by omega) h0 (entK_all hr hnd hV h0 k (by omega))

section
variable {R : List EntN} {pats : List RowN} {V : VL} {live d0 d1 d2 : Int}
theorem distP_ext {i : Nat} {e : List RowN} {R' : List EntN} (h1 : ∀ q ∈ pats, cntQ q R' = cntQ q R) (h2 : ∀ q ∈ e, cntQ q R' = 0) : distP i (pats ++ e) R' = distP i pats R := by
  unfold distP
  rw [List.countP_append]
  have a : e.countP (fun q => onePl i q && decide (cntQ q R' ≠ 0)) = 0 := by
    rw [List.countP_eq_zero]
    intro q hq
    simp [h2 q hq]
  have b : pats.countP (fun q => onePl i q && decide (cntQ q R' ≠ 0)) = pats.countP (fun q => onePl i q && decide (cntQ q R ≠ 0)) := by
    apply List.countP_congr
    intro q hq
    rw [h1 q hq]
  rw [a, b]
  omega
/-- Behind a row that comes, without bits. -/
theorem InvT.enter (h : InvT R pats V live d0 d1 d2) {r : RowN} (hr : okLook r) (hf : r ∉ R.map (·.1)) :
    InvT (R ++ [(r, 0)]) (entF r R.length (pats, V) 6).1 (entF r R.length (pats, V) 6).2 live d0 d1 d2 := by
  have hz : ∀ i, i < 6 → lookN r i ∉ pats → idxsF (lookN r i) (R.map (·.1)) = [] ∧ ((cntQ (lookN r i) R : Nat) : Int) = 0 := fun i hi hn => by
    have hno := h.none (look_part hr hi).1 hn
    refine ⟨idxsF_nil fun q hq => ?_, by rw [cntQ_nil hno]; rfl⟩
    obtain ⟨x, hx, rfl⟩ := List.mem_map.1 hq
    exact hno x hx
  obtain ⟨hv, hnd, hm, e, he, hel⟩ := entK_all (n := R.length) (xs := fun q => idxsF q (R.map (·.1))) (lv := fun q => ((cntQ q R : Nat) : Int)) hr h.pnod h.view hz 6 (Nat.le_refl _)
  have hne : ∀ q ∈ e, q ∉ pats := fun q hq hp => by
    rw [he, List.nodup_append] at hnd
    exact hnd.2.2 q hp q hq rfl
  have hpart : ∀ q, q ∈ (entF r R.length (pats, V) 6).1 → partL q := fun q hq => by
    rcases (hm q).1 hq with h1 | ⟨i, hi, rfl⟩
    · exact h.part h1
    · exact (look_part hr hi).1
  have hdist : ∀ i, distP i (entF r R.length (pats, V) 6).1 (R ++ [(r, 0)]) = distP i pats R := fun i => by
    rw [he]
    refine distP_ext (fun q _ => cntQ_snoc q R r) fun q hq => ?_
    rw [cntQ_snoc]
    exact cntQ_nil (h.none (hpart q (by rw [he]; exact List.mem_append_right _ hq)) (hne q hq))
  refine ⟨?_, ?_, hnd, fun q => ?_, ?_, ?_, ?_, ?_, ?_, ?_⟩
  · rw [List.map_append, List.nodup_append]
    exact ⟨h.nod, (by simp), fun a ha b hb => by rw [List.mem_singleton.1 hb]; exact fun e => hf ((show a = r from e) ▸ ha)⟩
  · intro x hx
    rcases List.mem_append.1 hx with hx | hx
    · exact h.nz x hx
    · rw [List.mem_singleton.1 hx]; exact hr
  · rw [hm, h.pin]
    constructor
    · rintro (⟨x, hx, i, hi, e⟩ | ⟨i, hi, e⟩)
      · exact ⟨x, List.mem_append_left _ hx, i, hi, e⟩
      · exact ⟨(r, 0), List.mem_append_right _ (List.mem_singleton.2 rfl), i, hi, e⟩
    · rintro ⟨x, hx, i, hi, e⟩
      rcases List.mem_append.1 hx with hx | hx
      · exact .inl ⟨x, hx, i, hi, e⟩
      · rw [List.mem_singleton.1 hx] at e
        exact .inr ⟨i, hi, e⟩
  · rw [he, List.length_append, List.length_append]
    have := h.plen
    show pats.length + e.length ≤ 6 * (R.length + 1)
    omega
  · rw [hv]
    apply List.map_congr_left
    intro q hq
    rw [List.map_append, List.map_singleton, idxsF_snoc, cntQ_snoc, List.length_map]
    have := hpart q hq
    by_cases hfit : fitB q r = true
    · rw [if_pos ((look_iff hr).2 ⟨this, hfit⟩), if_pos hfit]
    · rw [if_neg (fun h => hfit ((look_iff hr).1 h).2), if_neg hfit]
  · rw [h.live, List.countP_append]
    simp [liveB]
  · rw [hdist]; exact h.e0
  · rw [hdist]; exact h.e1
  · rw [hdist]; exact h.e2
end
end Go.Proofs.Ytnmimagcmmdolaa
