/-
  WHAT THE PROOF STANDS ON, a part of it: UnPure.
-/
import Derived.Test.YtjbfjglomonanaaU20
/-
  PARTITIONS IN MATHEMATICS: what a partition tells of joins; two whose joins lead to the same tell the same.
-/

namespace Go.Proofs.Ytjbfjglomonanaa
set_option linter.unusedVariables false
set_option linter.unusedSimpArgs false

/-- What a row of joins leads to. -/
inductive Con (J : List (Nat × Nat)) : Nat → Nat → Prop
  | refl (a : Nat) : Con J a a
  | base {a b : Nat} (h : (a, b) ∈ J) (ha : a ≠ 0) (hb : b ≠ 0) : Con J a b
  | symm {a b : Nat} (h : Con J a b) : Con J b a
  | trans {a b c : Nat} (h : Con J a b) (k : Con J b c) : Con J a c
theorem Con.mono {J K : List (Nat × Nat)} (hs : ∀ a b, (a, b) ∈ J → (a, b) ∈ K ∨ (b, a) ∈ K) {x y : Nat} (h : Con J x y) : Con K x y := by
  induction h with
  | refl a => exact .refl a
  | base h ha hb =>
    rcases hs _ _ h with h | h
    · exact .base h ha hb
    · exact .symm (.base h hb ha)
  | symm _ ih => exact .symm ih
  | trans _ _ ih1 ih2 => exact .trans ih1 ih2
theorem con_snoc {J : List (Nat × Nat)} {a b : Nat} (ha : a ≠ 0) (hb : b ≠ 0) (x y : Nat) : Con (J ++ [(a, b)]) x y ↔ Con J x y ∨ (Con J x a ∧ Con J b y) ∨ (Con J x b ∧ Con J a y) := by
  constructor
  · intro h
    induction h with
    | refl a => exact .inl (.refl a)
    | base h hc hd =>
      rcases List.mem_append.1 h with h | h
      · exact .inl (.base h hc hd)
      · simp only [List.mem_singleton, Prod.mk.injEq] at h
        obtain ⟨rfl, rfl⟩ := h
        exact .inr (.inl ⟨.refl _, .refl _⟩)
    | symm _ ih =>
      rcases ih with ih | ⟨h1, h2⟩ | ⟨h1, h2⟩
      · exact .inl ih.symm
      · exact .inr (.inr ⟨h2.symm, h1.symm⟩)
      · exact .inr (.inl ⟨h2.symm, h1.symm⟩)
    | trans _ _ i1 i2 =>
      rcases i1 with i1 | ⟨h1, h2⟩ | ⟨h1, h2⟩
      · rcases i2 with i2 | ⟨h3, h4⟩ | ⟨h3, h4⟩
        · exact .inl (i1.trans i2)
        · exact .inr (.inl ⟨i1.trans h3, h4⟩)
        · exact .inr (.inr ⟨i1.trans h3, h4⟩)
      · rcases i2 with i2 | ⟨h3, h4⟩ | ⟨h3, h4⟩
        · exact .inr (.inl ⟨h1, h2.trans i2⟩)
        · exact .inr (.inl ⟨h1, h4⟩)
        · exact .inl (h1.trans h4)
      · rcases i2 with i2 | ⟨h3, h4⟩ | ⟨h3, h4⟩
        · exact .inr (.inr ⟨h1, h2.trans i2⟩)
        · exact .inl (h1.trans h4)
        · exact .inr (.inr ⟨h1, h4⟩)
  · have up : ∀ {x y : Nat}, Con J x y → Con (J ++ [(a, b)]) x y := fun h => h.mono fun a b h => .inl (List.mem_append_left _ h)
    have hab : Con (J ++ [(a, b)]) a b := .base (by simp) ha hb
    rintro (h | ⟨h1, h2⟩ | ⟨h1, h2⟩)
    · exact up h
    · exact (up h1).trans (hab.trans (up h2))
    · exact (up h1).trans (hab.symm.trans (up h2))
theorem con_zero {J : List (Nat × Nat)} {a b : Nat} (h0 : a = 0 ∨ b = 0) (x y : Nat) : Con (J ++ [(a, b)]) x y ↔ Con J x y := by
  constructor
  · intro h
    induction h with
    | refl a => exact .refl a
    | base h hc hd =>
      rcases List.mem_append.1 h with h | h
      · exact .base h hc hd
      · simp only [List.mem_singleton, Prod.mk.injEq] at h
        obtain ⟨rfl, rfl⟩ := h
        exact absurd h0 (by simp [hc, hd])
    | symm _ ih => exact ih.symm
    | trans _ _ i1 i2 => exact i1.trans i2
  · exact fun h => h.mono fun a b h => .inl (List.mem_append_left _ h)
/-- A clique as it should be. -/
structure GoodL (n m : Nat) (ns : List Nat) : Prop where
  nodup : ns.Nodup
  name : n ∈ ns
  least : m ∈ ns
  le : ∀ x ∈ ns, m ≤ x
structure InvA (A : PartA) : Prop where
  nm : ∀ x n, A.nm x = some n ↔ ∃ m ns, A.ab n = some (m, ns) ∧ x ∈ ns
  good : ∀ n m ns, A.ab n = some (m, ns) → GoodL n m ns ∧ 2 ≤ ns.length ∧ 0 ∉ ns
def ConA (A : PartA) (x y : Nat) : Prop := x = y ∨ ∃ n, A.nm x = some n ∧ A.nm y = some n
theorem InvA.zero {A : PartA} (h : InvA A) : A.nm 0 = none := by
  cases hn : A.nm 0 with
  | none => rfl
  | some n =>
    obtain ⟨m, ns, h1, h2⟩ := (h.nm 0 n).1 hn
    exact absurd h2 (h.good n m ns h1).2.2
theorem InvA.named {A : PartA} (h : InvA A) (a n : Nat) (hn : A.nm a = some n) : (A.ab n).isSome = true := by
  obtain ⟨m, ns, h1, _⟩ := (h.nm a n).1 hn
  rw [h1]
  rfl
theorem InvA.look {A : PartA} (h : InvA A) (a : Nat) : GoodL (lookA A a).1 (lookA A a).2.1 (lookA A a).2.2 ∧ (∀ x, x ∈ (lookA A a).2.2 ↔ ConA A a x) ∧ (a ≠ 0 → 0 ∉ (lookA A a).2.2) := by
  unfold lookA
  cases hn : A.nm a with
  | none =>
    refine ⟨⟨by simp, by simp, by simp, by simp⟩, fun x => ?_, fun h => by simp; omega⟩
    simp only [List.mem_singleton]
    constructor
    · exact fun h => .inl h.symm
    · rintro (h | ⟨n, h1, _⟩)
      · exact h.symm
      · rw [hn] at h1; cases h1
  | some n =>
    obtain ⟨m, ns, h1, h2⟩ := (h.nm a n).1 hn
    obtain ⟨g, _, h0⟩ := h.good n m ns h1
    simp only [h1, Option.getD_some]
    refine ⟨g, fun x => ?_, fun _ => h0⟩
    constructor
    · exact fun hx => .inr ⟨n, hn, (h.nm x n).2 ⟨m, ns, h1, hx⟩⟩
    · rintro (rfl | ⟨k, h3, h4⟩)
      · exact h2
      · rw [hn] at h3
        cases h3
        obtain ⟨m2, ns2, h5, h6⟩ := (h.nm x n).1 h4
        rw [h1] at h5
        cases h5
        exact h6
/-- The names are the same just of what is joined. -/
theorem InvA.name_eq {A : PartA} (h : InvA A) (a b : Nat) : (lookA A a).1 = (lookA A b).1 ↔ ConA A a b := by
  constructor
  · intro e
    obtain ⟨ga, ma, _⟩ := h.look a
    obtain ⟨gb, mb, _⟩ := h.look b
    have h1 := (ma _).1 ga.name
    have h2 := (mb _).1 gb.name
    rw [← e] at h2
    rcases h1 with h1 | ⟨k, h3, h4⟩
    · rw [← h1] at h2
      rcases h2 with h2 | ⟨k, h5, h6⟩
      · exact .inl h2.symm
      · exact .inr ⟨k, h6, h5⟩
    · rcases h2 with h2 | ⟨k2, h5, h6⟩
      · rw [h2]
        exact .inr ⟨k, h3, h4⟩
      · rw [h4] at h6
        cases h6
        exact .inr ⟨k, h3, h5⟩
  · rintro (rfl | ⟨n, h1, h2⟩)
    · rfl
    · simp only [lookA, h1, h2]
/-- Two cliques that are unlike, made one. -/
def mergeA (A : PartA) (n m1 : Nat) (l1 : List Nat) (o m2 : Nat) (l2 : List Nat) : PartA :=
  { nm := fun x => if x ∈ l2 then some n else if n = x then some n else A.nm x
    ab := fun q => if o = q then none else if n = q then some (min m1 m2, l1 ++ l2) else A.ab q }
def joinA (A : PartA) (a b : Nat) : PartA × Nat × Bool :=
  if a = 0 ∨ b = 0 then (A, 0, false)
  else if (lookA A a).1 = (lookA A b).1 then (A, (lookA A a).2.1, false)
  else if (lookA A a).2.2.length < (lookA A b).2.2.length then (mergeA A (lookA A b).1 (lookA A b).2.1 (lookA A b).2.2 (lookA A a).1 (lookA A a).2.1 (lookA A a).2.2, min (lookA A b).2.1 (lookA A a).2.1, true)
  else (mergeA A (lookA A a).1 (lookA A a).2.1 (lookA A a).2.2 (lookA A b).1 (lookA A b).2.1 (lookA A b).2.2, min (lookA A a).2.1 (lookA A b).2.1, true)
theorem ConA.symm {A : PartA} {x y : Nat} (h : ConA A x y) : ConA A y x := by
  rcases h with rfl | ⟨n, h1, h2⟩
  · exact .inl rfl
  · exact .inr ⟨n, h2, h1⟩
theorem ConA.trans {A : PartA} {x y z : Nat} (h : ConA A x y) (k : ConA A y z) : ConA A x z := by
  rcases h with rfl | ⟨n, h1, h2⟩
  · exact k
  · rcases k with rfl | ⟨n2, h3, h4⟩
    · exact .inr ⟨n, h1, h2⟩
    · rw [h2] at h3
      cases h3
      exact .inr ⟨n, h1, h4⟩
/-- What the lists of the entries are: those of a and b, or others. -/
theorem merge_inv {A : PartA} (h : InvA A) (a b : Nat) (ha : a ≠ 0) (hb : b ≠ 0) (hne : (lookA A a).1 ≠ (lookA A b).1) :
    InvA (mergeA A (lookA A a).1 (lookA A a).2.1 (lookA A a).2.2 (lookA A b).1 (lookA A b).2.1 (lookA A b).2.2) ∧
    ∀ x y, ConA (mergeA A (lookA A a).1 (lookA A a).2.1 (lookA A a).2.2 (lookA A b).1 (lookA A b).2.1 (lookA A b).2.2) x y ↔ ConA A x y ∨ (ConA A x a ∧ ConA A b y) ∨ (ConA A x b ∧ ConA A a y) := by
  obtain ⟨ga, ma, za⟩ := h.look a
  obtain ⟨gb, mb, zb⟩ := h.look b
  have hnab : ¬ ConA A a b := fun hc => hne ((h.name_eq a b).2 hc)
  have hdis : ∀ x, x ∈ (lookA A a).2.2 → x ∈ (lookA A b).2.2 → False := fun x h1 h2 => hnab (((ma x).1 h1).trans ((mb x).1 h2).symm)
  -- an entry's list has a number of a's clique only if it is a's
  have own : ∀ q m ns, A.ab q = some (m, ns) → ∀ x, x ∈ ns → x ∈ (lookA A a).2.2 → q = (lookA A a).1 := fun q m ns hq x hx h1 => by
    have h2 := (h.nm x q).2 ⟨m, ns, hq, hx⟩
    have h3 := (h.name_eq a x).2 ((ma x).1 h1)
    rw [h3]
    simp only [lookA, h2]
  have own2 : ∀ q m ns, A.ab q = some (m, ns) → ∀ x, x ∈ ns → x ∈ (lookA A b).2.2 → q = (lookA A b).1 := fun q m ns hq x hx h1 => by
    have h2 := (h.nm x q).2 ⟨m, ns, hq, hx⟩
    have h3 := (h.name_eq b x).2 ((mb x).1 h1)
    rw [h3]
    simp only [lookA, h2]
  -- the name of a's clique is told of its numbers, but where it is alone
  have told : ∀ x, x ∈ (lookA A a).2.2 → x ≠ (lookA A a).1 → A.nm x = some (lookA A a).1 := fun x hx hxn => by
    have hc := (ma x).1 hx
    have hcn := (ma _).1 ga.name
    rcases hc.symm.trans hcn with e | ⟨n, h1, h2⟩
    · exact absurd e hxn
    · have h3 := (h.name_eq a x).2 hc
      have h4 : (lookA A x).1 = n := by simp only [lookA, h1]
      rw [h3, h4, h1]
  generalize hn : (lookA A a).1 = n at *
  generalize hl1 : (lookA A a).2.2 = l1 at *
  generalize hm1 : (lookA A a).2.1 = m1 at *
  generalize ho : (lookA A b).1 = o at *
  generalize hl2 : (lookA A b).2.2 = l2 at *
  generalize hm2 : (lookA A b).2.1 = m2 at *
  have stay : ∀ x k, x ∉ l1 → x ∉ l2 → ((mergeA A n m1 l1 o m2 l2).nm x = some k ↔ A.nm x = some k) := fun x k h1 h2 => by
    have : n ≠ x := fun e => h1 (e ▸ ga.name)
    simp only [mergeA, if_neg h2, if_neg this]
  have hone : n ≠ o := hne
  have hon : ¬ o = n := fun e => hne e.symm
  have atn : (mergeA A n m1 l1 o m2 l2).ab n = some (min m1 m2, l1 ++ l2) := by
    show (if o = n then none else if n = n then _ else _) = _
    rw [if_neg hon, if_pos rfl]
  have in1 : ∀ x, x ∈ l1 → (mergeA A n m1 l1 o m2 l2).nm x = some n := fun x hx => by
    have h2 : x ∉ l2 := fun h2 => hdis x hx h2
    simp only [mergeA, if_neg h2]
    by_cases e : n = x
    · rw [if_pos e]
    · rw [if_neg e]
      exact told x hx (fun e2 => e e2.symm)
  have in2 : ∀ x, x ∈ l2 → (mergeA A n m1 l1 o m2 l2).nm x = some n := fun x hx => by simp only [mergeA, if_pos hx]
  have hnm : ∀ x k, (mergeA A n m1 l1 o m2 l2).nm x = some k ↔ ∃ m ns, (mergeA A n m1 l1 o m2 l2).ab k = some (m, ns) ∧ x ∈ ns := fun x k => by
    by_cases hx1 : x ∈ l1
    · rw [in1 x hx1]
      constructor
      · intro e
        cases e
        exact ⟨min m1 m2, l1 ++ l2, atn, by simp [hx1]⟩
      · rintro ⟨m, ns, h1, h2⟩
        by_cases e : n = k
        · rw [e]
        · exfalso
          simp only [mergeA, if_neg e] at h1
          split at h1
          · cases h1
          · exact e (own k m ns h1 x h2 hx1).symm
    · by_cases hx2 : x ∈ l2
      · rw [in2 x hx2]
        constructor
        · intro e
          cases e
          exact ⟨min m1 m2, l1 ++ l2, atn, by simp [hx2]⟩
        · rintro ⟨m, ns, h1, h2⟩
          by_cases e : n = k
          · rw [e]
          · exfalso
            simp only [mergeA, if_neg e] at h1
            split at h1
            · cases h1
            · rename_i e2
              exact e2 (own2 k m ns h1 x h2 hx2).symm
      · rw [stay x k hx1 hx2]
        constructor
        · intro hk
          obtain ⟨m, ns, h1, h2⟩ := (h.nm x k).1 hk
          have e1 : k ≠ n := fun e => hx1 ((ma x).2 (by
            have h3 := (h.nm x k).2 ⟨m, ns, h1, h2⟩
            exact (h.name_eq a x).1 (by rw [hn]; simp only [lookA, h3]; exact e.symm)))
          have e2 : k ≠ o := fun e => hx2 ((mb x).2 (by
            have h3 := (h.nm x k).2 ⟨m, ns, h1, h2⟩
            exact (h.name_eq b x).1 (by rw [ho]; simp only [lookA, h3]; exact e.symm)))
          have e3 : ¬ o = k := fun e => e2 e.symm
          have e4 : ¬ n = k := fun e => e1 e.symm
          exact ⟨m, ns, by simp only [mergeA, if_neg e3, if_neg e4]; exact h1, h2⟩
        · rintro ⟨m, ns, h1, h2⟩
          simp only [mergeA] at h1
          split at h1
          · cases h1
          · split at h1
            · cases h1
              rcases List.mem_append.1 h2 with h2 | h2
              · exact absurd h2 hx1
              · exact absurd h2 hx2
            · exact (h.nm x k).2 ⟨m, ns, h1, h2⟩
  refine ⟨⟨hnm, fun q m ns hq => ?_⟩, fun x y => ?_⟩
  · simp only [mergeA] at hq
    split at hq
    · cases hq
    · split at hq
      · rename_i e
        subst e
        cases hq
        refine ⟨⟨?_, List.mem_append_left _ ga.name, ?_, ?_⟩, ?_, ?_⟩
        · rw [List.nodup_append]
          exact ⟨ga.nodup, gb.nodup, fun x hx y hy e => hdis x hx (e ▸ hy)⟩
        · rw [List.mem_append]
          rcases Nat.le_total m1 m2 with hh | hh
          · rw [Nat.min_eq_left hh]; exact .inl ga.least
          · rw [Nat.min_eq_right hh]; exact .inr gb.least
        · intro x hx
          rcases List.mem_append.1 hx with hx | hx
          · exact Nat.le_trans (Nat.min_le_left _ _) (ga.le x hx)
          · exact Nat.le_trans (Nat.min_le_right _ _) (gb.le x hx)
        · rw [List.length_append]
          have := List.length_pos_of_mem ga.name
          have := List.length_pos_of_mem gb.name
          omega
        · rw [List.mem_append]
          rintro (hh | hh)
          · exact za ha hh
          · exact zb hb hh
      · exact h.good q m ns hq
  · have memc : ∀ x y, x ∈ l1 ++ l2 → y ∈ l1 ++ l2 → ConA (mergeA A n m1 l1 o m2 l2) x y := fun x y hx hy => by
      refine .inr ⟨n, ?_, ?_⟩
      · rcases List.mem_append.1 hx with hx | hx
        · exact in1 x hx
        · exact in2 x hx
      · rcases List.mem_append.1 hy with hy | hy
        · exact in1 y hy
        · exact in2 y hy
    constructor
    · rintro (rfl | ⟨k, h1, h2⟩)
      · exact .inl (.inl rfl)
      · by_cases hx1 : x ∈ l1
        · rw [in1 x hx1] at h1
          cases h1
          obtain ⟨m, ns, h3, h4⟩ := (hnm y n).1 h2
          rw [atn] at h3
          cases h3
          rcases List.mem_append.1 h4 with h4 | h4
          · exact .inl (((ma x).1 hx1).symm.trans ((ma y).1 h4))
          · exact .inr (.inl ⟨((ma x).1 hx1).symm, (mb y).1 h4⟩)
        · by_cases hx2 : x ∈ l2
          · rw [in2 x hx2] at h1
            cases h1
            obtain ⟨m, ns, h3, h4⟩ := (hnm y n).1 h2
            rw [atn] at h3
            cases h3
            rcases List.mem_append.1 h4 with h4 | h4
            · exact .inr (.inr ⟨((mb x).1 hx2).symm, (ma y).1 h4⟩)
            · exact .inl (((mb x).1 hx2).symm.trans ((mb y).1 h4))
          · have hk := (stay x k hx1 hx2).1 h1
            obtain ⟨m, ns, h3, h4⟩ := (hnm y k).1 h2
            simp only [mergeA] at h3
            split at h3
            · cases h3
            · split at h3
              · rename_i e
                subst e
                obtain ⟨m5, ns5, h5, h6⟩ := (hnm x n).1 h1
                rw [atn] at h5
                cases h5
                rcases List.mem_append.1 h6 with h6 | h6
                · exact absurd h6 hx1
                · exact absurd h6 hx2
              · exact .inl (.inr ⟨k, hk, (h.nm y k).2 ⟨m, ns, h3, h4⟩⟩)
    · have up : ∀ {x y : Nat}, ConA A x y → ConA (mergeA A n m1 l1 o m2 l2) x y := fun {x y} hc => by
        by_cases hx : x ∈ l1 ++ l2
        · refine memc x y hx ?_
          rw [List.mem_append] at hx ⊢
          rcases hx with hx | hx
          · exact .inl ((ma y).2 (((ma x).1 hx).trans hc))
          · exact .inr ((mb y).2 (((mb x).1 hx).trans hc))
        · rw [List.mem_append] at hx
          rcases hc with rfl | ⟨k, h1, h2⟩
          · exact .inl rfl
          · refine .inr ⟨k, (stay x k (fun h => hx (.inl h)) (fun h => hx (.inr h))).2 h1, (stay y k (fun h => hx (.inl ((ma x).2 (((ma y).1 h).trans (.inr ⟨k, h2, h1⟩))))) (fun h => hx (.inr ((mb x).2 (((mb y).1 h).trans (.inr ⟨k, h2, h1⟩)))))).2 h2⟩
      have hab : ConA (mergeA A n m1 l1 o m2 l2) a b := memc a b (List.mem_append_left _ ((ma a).2 (.inl rfl))) (List.mem_append_right _ ((mb b).2 (.inl rfl)))
      rintro (hc | ⟨h1, h2⟩ | ⟨h1, h2⟩)
      · exact up hc
      · exact (up h1).trans (hab.trans (up h2))
      · exact (up h1).trans (hab.symm.trans (up h2))
/-- A partition is of some joins. -/
structure OfJ (J : List (Nat × Nat)) (A : PartA) : Prop where
  inv : InvA A
  con : ∀ x y, Con J x y ↔ ConA A x y
theorem ofJ_nil : OfJ [] ⟨fun _ => none, fun _ => none⟩ := by
  refine ⟨⟨fun x n => ⟨fun h => (by cases h), fun ⟨m, ns, h, _⟩ => (by cases h)⟩, fun n m ns h => (by cases h)⟩, fun x y => ⟨fun h => ?_, ?_⟩⟩
  · have : x = y := by
      induction h with
      | refl a => rfl
      | base h _ _ => cases h
      | symm _ ih => exact ih.symm
      | trans _ _ i1 i2 => exact i1.trans i2
    exact .inl this
  · rintro (rfl | ⟨n, h, _⟩)
    · exact .refl _
    · cases h
theorem OfJ.join {J : List (Nat × Nat)} {A : PartA} (h : OfJ J A) (a b : Nat) : OfJ (J ++ [(a, b)]) (joinA A a b).1 := by
  unfold joinA
  by_cases h0 : a = 0 ∨ b = 0
  · rw [if_pos h0]
    exact ⟨h.inv, fun x y => (con_zero h0 x y).trans (h.con x y)⟩
  · have ha : a ≠ 0 := fun e => h0 (.inl e)
    have hb : b ≠ 0 := fun e => h0 (.inr e)
    rw [if_neg h0]
    by_cases hn : (lookA A a).1 = (lookA A b).1
    · rw [if_pos hn]
      refine ⟨h.inv, fun x y => ?_⟩
      rw [con_snoc ha hb, ← h.con]
      have hab : Con J a b := (h.con a b).2 ((h.inv.name_eq a b).1 hn)
      constructor
      · rintro (h1 | ⟨h1, h2⟩ | ⟨h1, h2⟩)
        · exact h1
        · exact h1.trans (hab.trans h2)
        · exact h1.trans (hab.symm.trans h2)
      · exact .inl
    · rw [if_neg hn]
      by_cases hl : (lookA A a).2.2.length < (lookA A b).2.2.length
      · rw [if_pos hl]
        obtain ⟨h1, h2⟩ := merge_inv h.inv b a hb ha (fun e => hn e.symm)
        refine ⟨h1, fun x y => ?_⟩
        rw [h2, con_snoc ha hb]
        simp only [h.con]
        constructor
        · rintro (h3 | h3 | h3)
          · exact .inl h3
          · exact .inr (.inr h3)
          · exact .inr (.inl h3)
        · rintro (h3 | h3 | h3)
          · exact .inl h3
          · exact .inr (.inr h3)
          · exact .inr (.inl h3)
      · rw [if_neg hl]
        obtain ⟨h1, h2⟩ := merge_inv h.inv a b ha hb hn
        refine ⟨h1, fun x y => ?_⟩
        rw [h2, con_snoc ha hb]
        simp only [h.con]
theorem rise_eq : ∀ {l k : List Nat}, l.Pairwise (· < ·) → k.Pairwise (· < ·) → (∀ x, x ∈ l ↔ x ∈ k) → l = k
  | [], [], _, _, _ => rfl
  | [], y :: k, _, _, h => by have := (h y).2 (by simp); cases this
  | x :: l, [], _, _, h => by have := (h x).1 (by simp); cases this
  | x :: l, y :: k, hl, hk, h => by
    rw [List.pairwise_cons] at hl hk
    have hxy : x = y := by
      rcases List.mem_cons.1 ((h x).1 (by simp)) with e | e
      · exact e
      · rcases List.mem_cons.1 ((h y).2 (by simp)) with e2 | e2
        · exact e2.symm
        · have := hk.1 x e
          have := hl.1 y e2
          omega
    subst hxy
    congr 1
    refine rise_eq hl.2 hk.2 fun z => ⟨fun hz => ?_, fun hz => ?_⟩
    · rcases List.mem_cons.1 ((h z).1 (by simp [hz])) with e | e
      · have := hl.1 z hz
        omega
      · exact e
    · rcases List.mem_cons.1 ((h z).2 (by simp [hz])) with e | e
      · have := hk.1 z hz
        omega
      · exact e
theorem sort_rise {l : List Nat} (h : l.Nodup) : (l.mergeSort fun x y => decide (x ≤ y)).Pairwise (· < ·) := by
  have h1 : (l.mergeSort fun x y => decide (x ≤ y)).Pairwise fun x y => decide (x ≤ y) = true := List.pairwise_mergeSort (fun a b c h1 h2 => by simp at *; omega) (fun a b => by simp; omega) l
  have h2 : (l.mergeSort fun x y => decide (x ≤ y)).Nodup := (List.mergeSort_perm l _).nodup_iff.2 h
  have h3 := h1.and h2
  exact h3.imp fun {a b} ⟨h4, h5⟩ => by
    have := of_decide_eq_true h4
    have : a ≠ b := h5
    omega
theorem clique_same {A B : PartA} (hA : InvA A) (hB : InvA B) (h : ∀ x y, ConA A x y ↔ ConA B x y) (a : Nat) : cliqueL A a = cliqueL B a := by
  unfold cliqueL
  by_cases h0 : a = 0
  · rw [if_pos h0, if_pos h0]
  · rw [if_neg h0, if_neg h0]
    obtain ⟨ga, ma, _⟩ := hA.look a
    obtain ⟨gb, mb, _⟩ := hB.look a
    refine rise_eq (sort_rise ga.nodup) (sort_rise gb.nodup) fun x => ?_
    rw [(List.mergeSort_perm _ _).mem_iff, (List.mergeSort_perm _ _).mem_iff, ma, mb, h]
theorem nodup_le {l k : List Nat} (hl : l.Nodup) (h : ∀ x, x ∈ l → x ∈ k) : l.length ≤ k.length := by
  induction l generalizing k with
  | nil => exact Nat.zero_le _
  | cons x l ih =>
    rw [List.nodup_cons] at hl
    have hx := h x (by simp)
    have := ih (k := k.erase x) hl.2 fun y hy => by
      have hne : y ≠ x := fun e => hl.1 (e ▸ hy)
      exact (List.mem_erase_of_ne hne).2 (h y (by simp [hy]))
    rw [List.length_erase_of_mem hx] at this
    have := List.length_pos_of_mem hx
    rw [List.length_cons]
    omega
end Go.Proofs.Ytjbfjglomonanaa

