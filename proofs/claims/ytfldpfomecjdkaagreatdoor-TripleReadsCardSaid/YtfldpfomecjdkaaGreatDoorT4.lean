/-
  WHAT THE PROOF STANDS ON, a part of it: SortOwn.
-/
import Derived.Test.YtfldpfomecjdkaaGreatDoorT3
import Derived.Lib.SliceRun
import Derived.Lib.SlicesCompact
import Derived.Lib.LazyBuf
/-
  ROWS OF TRIPLES THAT THE CALL ITSELF MADE: stores, cuts, what is read.
-/

namespace Go.Proofs.YtfldpfomecjdkaaGreatDoor
open Go.RowKit
open Utf Term
set_option linter.unusedVariables false
set_option linter.unusedSimpArgs false

/-- Stores into a list, one behind the other. -/
def setL (xs : List Value) : Nat → List Value → List Value
  | _, [] => xs
  | s, u :: r => setL (xs.set s u) (s + 1) r
theorem setL_length : ∀ (us : List Value) (s : Nat) (xs : List Value), (setL xs s us).length = xs.length
  | [], _, _ => rfl
  | u :: r, s, xs => by rw [setL, setL_length r, List.length_set]
theorem setL_get : ∀ (us : List Value) (s : Nat) (xs : List Value) (t : Nat), s + us.length ≤ xs.length → (setL xs s us)[t]? = if s ≤ t ∧ t < s + us.length then us[t - s]? else xs[t]?
  | [], s, xs, t, _ => by rw [setL, if_neg (by simp only [List.length_nil]; omega)]
  | u :: r, s, xs, t, h => by
    have hl : s + (r.length + 1) ≤ xs.length := by simpa using h
    rw [setL, setL_get r (s + 1) _ t (by rw [List.length_set]; omega)]
    simp only [List.length_cons]
    by_cases e : t = s
    · subst e
      rw [if_neg (by omega), if_pos (by omega), Nat.sub_self, List.getElem?_set_self (by omega)]
      rfl
    · by_cases c : s + 1 ≤ t ∧ t < s + 1 + r.length
      · rw [if_pos c, if_pos (by omega), show t - s = (t - (s + 1)) + 1 by omega, List.getElem?_cons_succ]
      · rw [if_neg c, if_neg (by omega), List.getElem?_set_ne (by omega)]
theorem cellsT_none {ds : List TripD} {t : Nat} (h : ds.length * 9 ≤ t) : (cellsT ds)[t]? = none := List.getElem?_eq_none (by rw [cellsT_length]; exact h)
theorem cellsT_set {ds : List TripD} {p : Nat} (hp : p < ds.length) (x : TripD) : setL (cellsT ds) (p * 9) (encT x) = cellsT (ds.set p x) := by
  apply List.ext_getElem?
  intro t
  rw [setL_get _ _ _ _ (by rw [encT_length, cellsT_length]; omega), encT_length]
  by_cases ht : t < ds.length * 9
  · obtain ⟨q, c, rfl, hc⟩ : ∃ q c, t = q * 9 + c ∧ c < 9 := ⟨t / 9, t % 9, by omega, by omega⟩
    obtain ⟨y, hy⟩ : ∃ y, ds[q]? = some y := ⟨_, List.getElem?_eq_getElem (by omega)⟩
    by_cases e : q = p
    · subst e
      rw [if_pos (by omega), cellsT_get _ _ _ _ (List.getElem?_set_self hp) hc, show q * 9 + c - q * 9 = c by omega]
    · rw [if_neg (by omega), cellsT_get _ _ _ _ hy hc, cellsT_get _ _ _ _ ((List.getElem?_set_ne (Ne.symm e)).trans hy) hc]
  · rw [if_neg (by omega), cellsT_none (by omega), cellsT_none (by rw [List.length_set]; omega)]

section
variable {w : World} {base : Nat} {e : TypeId} {size g cap n : Nat} {xs : List Value}
theorem owns_setCells : ∀ (us : List Value) (s : Nat) (w : World) (xs : List Value), w.ownsRow base e size (.slice (some ⟨g, 0, none⟩) n cap) n xs →
    (w.setCells g s us).ownsRow base e size (.slice (some ⟨g, 0, none⟩) n cap) n (setL xs s us)
  | [], _, _, _, h => h
  | u :: r, s, w, xs, h => owns_setCells r (s + 1) _ _ (h.stored s u).1
/-- A shorter part from the beginning. -/
theorem owns_cut (h : w.ownsRow base e size (.slice (some ⟨g, 0, none⟩) n cap) n xs) {m : Nat} (hm : m ≤ n) : w.ownsRow base e size (.slice (some ⟨g, 0, none⟩) m cap) m (xs.take (m * size)) := by
  have hmn : m * size ≤ n * size := Nat.mul_le_mul_right _ hm
  refine ⟨by rw [List.length_take, h.1]; omega, .inr ?_⟩
  rcases h.2 with ⟨h', _⟩ | ⟨g', cap', cur, h', hb, hg, hnc, hcm, hcs, htake⟩
  · simp at h'
  · simp only [Value.slice.injEq, Option.some.injEq, Addr.mk.injEq, and_true, true_and] at h'
    obtain ⟨rfl, rfl⟩ := h'
    refine ⟨g, cap, cur, rfl, hb, hg, by omega, hcm, hcs, ?_⟩
    rw [← htake, List.take_take, Nat.min_eq_left hmn]
theorem owns_row (h : w.ownsRow base e size (.slice (some ⟨g, 0, none⟩) n cap) n xs) : RowC w g 0 xs := fun j u hu => by
  have hj : j < n * size := by have := (List.getElem?_eq_some_iff.1 hu).1; rwa [h.1] at this
  rw [Nat.zero_add, h.cellAt j hj, hu]
theorem owns_caps (h : w.ownsRow base e size (.slice (some ⟨g, 0, none⟩) n cap) n xs) : n ≤ cap ∧ cap ≤ maxLen ∧ base ≤ g ∧ g < w.heap.size := by
  rcases h.2 with ⟨h', _⟩ | ⟨g', cap', cur, h', hb, hg, hnc, hcm, hcs, htake⟩
  · simp at h'
  · simp only [Value.slice.injEq, Option.some.injEq, Addr.mk.injEq, and_true, true_and] at h'
    obtain ⟨rfl, rfl⟩ := h'
    exact ⟨hnc, hcm, hb, (Array.getElem?_eq_some_iff.1 hg).1⟩
theorem owns_below {w' : World} (h : w.ownsRow base e size (.slice (some ⟨g, 0, none⟩) n cap) n xs) (k : Below w.heap.size w w') : w'.ownsRow base e size (.slice (some ⟨g, 0, none⟩) n cap) n xs := by
  have hg := (owns_caps h).2.2.2
  refine ⟨h.1, ?_⟩
  rcases h.2 with ⟨h', _⟩ | ⟨g', cap', cur, h', hb, hg', r⟩
  · exact .inl ⟨h', ‹_›⟩
  · refine .inr ⟨g', cap', cur, h', hb, ?_, r⟩
    have e1 : g' = g := by
      simp only [Value.slice.injEq, Option.some.injEq, Addr.mk.injEq, and_true, true_and] at h'
      exact h'.1.symm
    rw [e1] at hg' ⊢
    rw [← hg']
    exact k.block _ hg
end
/-- An own row is a slice of triples. -/
theorem owns_slice {w : World} {base : Nat} {v : Value} {ds : List TripD} (h : w.ownsRow base 51 9 v ds.length (cellsT ds)) : SliceT w v ds := by
  have h0 := h
  rcases h.2 with ⟨rfl, h'⟩ | ⟨g', cap', cur, rfl, hb, hg, hnc, hcm, hcs, htake⟩
  · exact .inl ⟨rfl, List.eq_nil_of_length_eq_zero h'⟩
  · exact .inr ⟨g', 0, cap', rfl, hnc, hcm, owns_row h0⟩
theorem own_slice_below {w w' : World} {base : Nat} {v : Value} {e : TypeId} {size n : Nat} {xs : List Value} (h : w.ownsRow base e size v n xs) (k : Below w.heap.size w w') : w'.ownsRow base e size v n xs := by
  rcases h.2 with ⟨rfl, h'⟩ | ⟨g', cap', cur, rfl, hb, hg, hnc, hcm, hcs, htake⟩
  · exact ⟨h.1, .inl ⟨rfl, h'⟩⟩
  · exact owns_below h k

/-- '!=' of two triples. -/
theorem trip_neq (x y : TripD) (w : World) : (binOp .neq 51 (tripleV x.1 x.2.1 x.2.2) (tripleV y.1 y.2.1 y.2.2)).run Tryz.prog w = .ok (.bool (!decide (x = y))) w := by
  have h := trip_eql x y w
  rw [run_neq_struct]
  rw [run_eql_struct] at h
  generalize Sem.run Tryz.prog (Op.equalIn 10000 51 (tripleV x.1 x.2.1 x.2.2) (tripleV y.1 y.2.1 y.2.2)) w = R at h ⊢
  cases R with
  | ok b w' =>
    simp only [Result.andThen_ok, Result.ok.injEq, Value.bool.injEq] at h ⊢
    exact ⟨by rw [h.1], h.2⟩
  | _ => simp [Result.andThen] at h
end Go.Proofs.YtfldpfomecjdkaaGreatDoor
