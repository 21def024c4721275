/-
  PLAIN MATHEMATICS: lists in order, each once: there is one of them for the same elements; by insertion; by leaving out neighbours alike.
-/
import Derived.Test.YtlamdhklfibjmaaDoorOrderMath
namespace Go.Proofs.YtlamdhklfibjmaaDoor.Term
open Go

variable {α : Type} {f : α → α → Int}
/-- Each before the ones behind it. -/
def Strict (f : α → α → Int) (l : List α) : Prop := l.Pairwise fun a b => f a b < 0
/-- None behind the ones behind it. -/
def Weak (f : α → α → Int) (l : List α) : Prop := l.Pairwise fun a b => f a b ≤ 0

theorem strict_ext (h : Ord f) : ∀ {l k : List α}, Strict f l → Strict f k → (∀ x, x ∈ l ↔ x ∈ k) → l = k
  | [], [], _, _, _ => rfl
  | [], b :: k, _, _, e => by have := (e b).2 (by simp); cases this
  | a :: l, [], _, _, e => by have := (e a).1 (by simp); cases this
  | a :: l, b :: k, hl, hk, e => by
    unfold Strict at hl hk
    rw [List.pairwise_cons] at hl hk
    have hab : a = b := by
      rcases List.mem_cons.1 ((e a).1 (by simp)) with h1 | h1
      · exact h1
      · rcases List.mem_cons.1 ((e b).2 (by simp)) with h2 | h2
        · exact h2.symm
        · have h3 := hk.1 a h1
          have h4 := hl.1 b h2
          have h5 := h.anti a b
          omega
    subst hab
    rw [strict_ext h hl.2 hk.2 fun x => ?_]
    constructor
    · intro hx
      rcases List.mem_cons.1 ((e x).1 (by simp [hx])) with h1 | h1
      · subst h1
        have := hl.1 x hx
        rw [h.refl] at this
        omega
      · exact h1
    · intro hx
      rcases List.mem_cons.1 ((e x).2 (by simp [hx])) with h1 | h1
      · subst h1
        have := hk.1 x hx
        rw [h.refl] at this
        omega
      · exact h1

section
variable [DecidableEq α]
/-- What stands behind a, neighbours alike left out. -/
def compF : α → List α → List α
  | _, [] => []
  | a, b :: l => if a = b then compF a l else b :: compF b l
/-- Neighbours alike left out. -/
def compactL : List α → List α
  | [] => []
  | a :: l => a :: compF a l

theorem compF_mem (x : α) : ∀ (a : α) (l : List α), x ∈ a :: compF a l ↔ x ∈ a :: l
  | a, [] => by simp [compF]
  | a, b :: l => by
    unfold compF
    by_cases h : a = b
    · subst h
      rw [if_pos rfl, compF_mem x a l]
      simp
    · rw [if_neg h, List.mem_cons, compF_mem x b l]
      simp
theorem compactL_mem (x : α) (l : List α) : x ∈ compactL l ↔ x ∈ l := by
  cases l with
  | nil => rfl
  | cons a l => exact compF_mem x a l
theorem compF_strict (h : Ord f) : ∀ (a : α) (l : List α), Weak f (a :: l) → Strict f (a :: compF a l)
  | a, [], _ => by simp [compF, Strict]
  | a, b :: l, hw => by
    unfold Weak at hw
    rw [List.pairwise_cons] at hw
    unfold compF
    by_cases e : a = b
    · subst e
      rw [if_pos rfl]
      exact compF_strict h a l hw.2
    · rw [if_neg e]
      have ih := compF_strict h b l hw.2
      unfold Strict at *
      rw [List.pairwise_cons]
      refine ⟨fun x hx => ?_, ih⟩
      have hab : f a b < 0 := by
        have h1 := hw.1 b (by simp)
        have h2 : f a b ≠ 0 := fun h2 => e (h.of_eq h2)
        omega
      rcases List.mem_cons.1 hx with rfl | hx
      · exact hab
      · have h3 := (List.pairwise_cons.1 ih).1 x hx
        exact h.lt_le hab (by omega)
theorem compactL_strict (h : Ord f) (l : List α) (hw : Weak f l) : Strict f (compactL l) := by
  cases l with
  | nil => simp [compactL, Strict]
  | cons a l => exact compF_strict h a l hw

/-- Put in its place, if it is not there. -/
def insL (f : α → α → Int) (x : α) : List α → List α
  | [] => [x]
  | y :: l => if f y x < 0 then y :: insL f x l else if y = x then y :: l else x :: y :: l
theorem insL_mem (x z : α) : ∀ l : List α, z ∈ insL f x l ↔ z = x ∨ z ∈ l
  | [] => by simp [insL]
  | y :: l => by
    unfold insL
    by_cases h1 : f y x < 0
    · rw [if_pos h1, List.mem_cons, insL_mem x z l, List.mem_cons]
      constructor <;> (intro h; rcases h with h | h | h <;> simp [h])
    · rw [if_neg h1]
      by_cases h2 : y = x
      · subst h2
        rw [if_pos rfl]
        simp
      · rw [if_neg h2]
        simp
theorem insL_strict (h : Ord f) (x : α) : ∀ l : List α, Strict f l → Strict f (insL f x l)
  | [], _ => by simp [insL, Strict]
  | y :: l, hs => by
    have hs' := hs
    unfold Strict at hs
    rw [List.pairwise_cons] at hs
    unfold insL
    by_cases h1 : f y x < 0
    · rw [if_pos h1]
      unfold Strict
      rw [List.pairwise_cons]
      refine ⟨fun z hz => ?_, insL_strict h x l hs.2⟩
      rcases (insL_mem x z l).1 hz with rfl | hz
      · exact h1
      · exact hs.1 z hz
    · rw [if_neg h1]
      by_cases h2 : y = x
      · rw [if_pos h2]; exact hs'
      · rw [if_neg h2]
        have hxy : f x y < 0 := by
          have h3 := h.anti y x
          have h4 : f y x ≠ 0 := fun e => h2 (h.of_eq e)
          omega
        unfold Strict
        rw [List.pairwise_cons]
        refine ⟨fun z hz => ?_, hs'⟩
        rcases List.mem_cons.1 hz with rfl | hz
        · exact hxy
        · have := hs.1 z hz
          exact h.lt_le hxy (by omega)
/-- All of them, in order, each once. -/
def sortL (f : α → α → Int) (l : List α) : List α := l.foldl (fun out x => insL f x out) []
theorem foldl_ins (h : Ord f) : ∀ (l out : List α), Strict f out → Strict f (l.foldl (fun out x => insL f x out) out) ∧ ∀ z, z ∈ l.foldl (fun out x => insL f x out) out ↔ z ∈ out ∨ z ∈ l
  | [], out, ho => ⟨ho, by simp⟩
  | x :: l, out, ho => by
    obtain ⟨h1, h2⟩ := foldl_ins h l (insL f x out) (insL_strict h x out ho)
    refine ⟨h1, fun z => ?_⟩
    rw [List.foldl_cons, h2 z, insL_mem, List.mem_cons]
    constructor
    · rintro ((e | e) | e)
      · exact .inr (.inl e)
      · exact .inl e
      · exact .inr (.inr e)
    · rintro (e | e | e)
      · exact .inl (.inr e)
      · exact .inl (.inl e)
      · exact .inr e
theorem sortL_strict (h : Ord f) (l : List α) : Strict f (sortL f l) := (foldl_ins h l [] (by simp [Strict])).1
theorem sortL_mem (h : Ord f) (l : List α) (z : α) : z ∈ sortL f l ↔ z ∈ l := by
  unfold sortL
  rw [(foldl_ins h l [] (by simp [Strict])).2 z]
  simp
/-- In order, neighbours alike left out: the same. -/
theorem compact_sort (h : Ord f) {l k : List α} (hw : Weak f k) (hm : ∀ x, x ∈ k ↔ x ∈ l) : compactL k = sortL f l :=
  strict_ext h (compactL_strict h k hw) (sortL_strict h l) fun x => by rw [compactL_mem, sortL_mem h, hm]
theorem sortL_ext (h : Ord f) {l k : List α} (hm : ∀ x, x ∈ k ↔ x ∈ l) : sortL f k = sortL f l :=
  strict_ext h (sortL_strict h k) (sortL_strict h l) fun x => by rw [sortL_mem h, sortL_mem h, hm]
theorem sortL_self (h : Ord f) {l : List α} (hs : Strict f l) : sortL f l = l :=
  strict_ext h (sortL_strict h l) hs fun x => by rw [sortL_mem h]
end
end Go.Proofs.YtlamdhklfibjmaaDoor.Term
