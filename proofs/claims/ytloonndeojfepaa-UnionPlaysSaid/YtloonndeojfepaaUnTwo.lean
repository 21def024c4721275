/-
  A PARTITION OF JOINS, AND TWO SIDE BY SIDE: contracts as a caller wants them.
-/
import Derived.Test.YtloonndeojfepaaUnJoin
namespace Go.Proofs.Ytloonndeojfepaa
open Go.RowKit
set_option linter.unusedVariables false
set_option linter.unusedSimpArgs false

/-- The partition of a row of joins. -/
def runA (J : List (Nat × Nat)) : PartA := J.foldl (fun A x => (joinA A x.1 x.2).1) ⟨fun _ => none, fun _ => none⟩
theorem runA_snoc (J : List (Nat × Nat)) (a b : Nat) : runA (J ++ [(a, b)]) = (joinA (runA J) a b).1 := by
  unfold runA
  rw [List.foldl_append]
  rfl
theorem runA_of (J : List (Nat × Nat)) : OfJ J (runA J) := by
  have key : ∀ n (J : List (Nat × Nat)), J.length = n → OfJ J (runA J) := by
    intro n
    induction n with
    | zero =>
      intro J h
      rw [List.eq_nil_of_length_eq_zero h]
      exact ofJ_nil
    | succ n ih =>
      intro J h
      obtain ⟨K, x, rfl⟩ : ∃ K x, J = K ++ [x] := by
        have hne : J ≠ [] := by intro e; rw [e] at h; simp at h
        exact ⟨J.dropLast, J.getLast hne, (List.dropLast_concat_getLast hne).symm⟩
      obtain ⟨a, b⟩ := x
      rw [runA_snoc]
      exact (ih K (by simpa using h)).join a b
  exact key _ J rfl
theorem con_num {J : List (Nat × Nat)} {x y : Nat} (h : Con J x y) : x = y ∨ (x ∈ J.map (·.1) ++ J.map (·.2) ∧ y ∈ J.map (·.1) ++ J.map (·.2)) := by
  induction h with
  | refl a => exact .inl rfl
  | base h _ _ => exact .inr ⟨List.mem_append_left _ (List.mem_map.2 ⟨_, h, rfl⟩), List.mem_append_right _ (List.mem_map.2 ⟨_, h, rfl⟩)⟩
  | symm _ ih =>
    rcases ih with ih | ⟨h1, h2⟩
    · exact .inl ih.symm
    · exact .inr ⟨h2, h1⟩
  | trans _ _ i1 i2 =>
    rcases i1 with rfl | ⟨h1, h2⟩
    · exact i2
    · rcases i2 with rfl | ⟨h3, h4⟩
      · exact .inr ⟨h1, h2⟩
      · exact .inr ⟨h1, h4⟩
theorem runA_few (J : List (Nat × Nat)) (x : Nat) : (lookA (runA J) x).2.2.length ≤ 1 + 2 * J.length := by
  obtain ⟨g, m, _⟩ := (runA_of J).inv.look x
  have := nodup_le g.nodup (k := x :: (J.map (·.1) ++ J.map (·.2))) fun y hy => by
    rcases con_num (((runA_of J).con x y).2 ((m y).1 hy)) with rfl | ⟨_, h⟩
    · exact List.mem_cons_self ..
    · exact List.mem_cons_of_mem _ h
  simp only [List.length_cons, List.length_append, List.length_map] at this
  omega
def UnI (W : World) (S : Nat → Prop) (pb : Nat) (J : List (Nat × Nat)) : Prop := ∃ nb cb cl, PartI W S pb nb cb (runA J) cl
section
variable {w W U : World} {S T : Nat → Prop} {pb : Nat} {J : List (Nat × Nat)}
theorem UnI.below (h : UnI W S pb J) (k : Below W.heap.size W U) : UnI U S pb J := by
  obtain ⟨nb, cb, cl, h⟩ := h
  exact ⟨nb, cb, cl, h.below k⟩
theorem UnI.beside (h : UnI W S pb J) (k : Turned T W U) (hn : ∀ j, S j → ¬ T j) : UnI U S pb J := by
  obtain ⟨nb, cb, cl, h⟩ := h
  exact ⟨nb, cb, cl, h.beside k hn⟩
theorem UnI.lt (h : UnI W S pb J) : ∀ j, S j → j < W.heap.size := by
  obtain ⟨nb, cb, cl, h⟩ := h
  exact h.lt
theorem UnI.wide (h : UnI W S pb J) (hs : ∀ j, S j → T j) (hl : ∀ j, T j → j < W.heap.size) : UnI W T pb J := by
  obtain ⟨nb, cb, cl, h⟩ := h
  exact ⟨nb, cb, cl, h.wide hs hl⟩
abbrev unP (pb : Nat) : Value := .pointer (some ⟨pb, 0, none⟩)
theorem UnI.join (h : UnI w S pb J) (hJ : J.length ≤ 1000) (a b : Nat) : Calls Try.prog 8 #[unP pb, .int .u32 (a : Int), .int .u32 (b : Int)] w fun e w' =>
    e = .returned (.tuple #[.int .u32 ((joinA (runA J) a b).2.1 : Int), .bool (joinA (runA J) a b).2.2]) ∧ Turned S w w' ∧ UnI w' (growS S w w') pb (J ++ [(a, b)]) := by
  obtain ⟨nb, cb, cl, h⟩ := h
  refine (join_any h (runA_of J).inv (fun x => by have := runA_few J x; omega) a b).mono ?_
  rintro e w' ⟨rfl, h1, cl', h2⟩
  exact ⟨rfl, h1, nb, cb, cl', by rw [runA_snoc]; exact h2⟩
/-- Who stands for a number. -/
def leastJ (J : List (Nat × Nat)) (x : Nat) : Nat := (lookA (runA J) x).2.1
def cliqueJ (J : List (Nat × Nat)) (x : Nat) : List Nat := cliqueL (runA J) x
theorem UnI.find (h : UnI w S pb J) (x : Nat) : Calls Try.prog 14 #[unP pb, .int .u32 (x : Int)] w fun e w' => e = .returned (.int .u32 (leastJ J x : Int)) ∧ w' = w := by
  obtain ⟨nb, cb, cl, h⟩ := h
  refine (find_any h.mem x).mono ?_
  rintro e w' ⟨rfl, rfl⟩
  refine ⟨?_, rfl⟩
  have : findF (runA J).nm cl x = leastJ J x := by
    unfold findF leastJ lookA
    cases hn : (runA J).nm x with
    | none => rfl
    | some n =>
      obtain ⟨⟨m, ns⟩, hab⟩ := Option.isSome_iff_exists.1 (h.named x n hn)
      have hl := h.lists n
      rw [hab] at hl
      obtain ⟨ao, cap, e, _⟩ := hl
      simp only [e, hab]
      rfl
  rw [this]
theorem UnI.clique (h : UnI w S pb J) (hJ : J.length ≤ 1000) (x : Nat) : Calls Try.prog 13 #[unP pb, .int .u32 (x : Int)] w fun e w' =>
    ∃ ao cap, e = .returned (.slice ao (cliqueJ J x).length cap) ∧ NumsR w' ao (cliqueJ J x) ∧ Below w.heap.size w w' := by
  obtain ⟨nb, cb, cl, h⟩ := h
  exact cliqueOf_any h x (by have := runA_few J x; omega)
/-- How many cliques there are: one number for all partitions of the same joins. -/
def CountOf (A : PartA) (N : Nat) : Prop := ∀ ks : List Nat, ks.Nodup → (∀ r, r ∈ ks ↔ (A.ab r).isSome = true) → ks.length = N
theorem UnI.len (h : UnI w S pb J) {N : Nat} (hN : CountOf (runA J) N) : Calls Try.prog 15 #[unP pb] w fun e w' => e = .returned (.int .i64 (N : Int)) ∧ w' = w := by
  obtain ⟨nb, cb, cl, h⟩ := h
  refine (len_any h).mono ?_
  rintro e w' ⟨⟨ks, rfl, h1, h2⟩, rfl⟩
  refine ⟨?_, rfl⟩
  rw [hN ks h1 fun r => ?_]
  rw [h2]
  have hl := h.lists r
  cases hab : (runA J).ab r with
  | none =>
    rw [hab] at hl
    have hl : cl r = none := hl
    rw [hl]
    exact ⟨fun h => (by cases h), fun h => (by cases h)⟩
  | some x =>
    obtain ⟨m, ns⟩ := x
    rw [hab] at hl
    obtain ⟨ao, cap, e, _⟩ := hl
    rw [e]
    exact ⟨fun _ => rfl, fun _ => rfl⟩
theorem count_both (J K : List (Nat × Nat)) (h : ∀ x y, Con J x y ↔ Con K x y) : ∃ N, CountOf (runA J) N ∧ CountOf (runA K) N := by
  have hc : ∀ x y, ConA (runA J) x y ↔ ConA (runA K) x y := fun x y => by rw [← (runA_of J).con, ← (runA_of K).con, h]
  by_cases he : ∃ ks : List Nat, ks.Nodup ∧ ∀ r, r ∈ ks ↔ ((runA J).ab r).isSome = true
  · obtain ⟨ks, h1, h2⟩ := he
    exact ⟨ks.length, fun k2 h3 h4 => count_same (runA_of J).inv (runA_of J).inv (fun _ _ => Iff.rfl) h3 h1 h4 h2, fun k2 h3 h4 => count_same (runA_of K).inv (runA_of J).inv (fun x y => (hc x y).symm) h3 h1 h4 h2⟩
  · by_cases he2 : ∃ ks : List Nat, ks.Nodup ∧ ∀ r, r ∈ ks ↔ ((runA K).ab r).isSome = true
    · obtain ⟨ks, h1, h2⟩ := he2
      exact ⟨ks.length, fun k2 h3 h4 => absurd ⟨k2, h3, h4⟩ he, fun k2 h3 h4 => count_same (runA_of K).inv (runA_of K).inv (fun _ _ => Iff.rfl) h3 h1 h4 h2⟩
    · exact ⟨0, fun k2 h3 h4 => absurd ⟨k2, h3, h4⟩ he, fun k2 h3 h4 => absurd ⟨k2, h3, h4⟩ he2⟩
theorem leastJ_same {J K : List (Nat × Nat)} (h : ∀ x y, Con J x y ↔ Con K x y) (x : Nat) : leastJ J x = leastJ K x :=
  least_same (runA_of J).inv (runA_of K).inv (fun x y => by rw [← (runA_of J).con, ← (runA_of K).con, h]) x
theorem cliqueJ_same {J K : List (Nat × Nat)} (h : ∀ x y, Con J x y ↔ Con K x y) (x : Nat) : cliqueJ J x = cliqueJ K x :=
  clique_same (runA_of J).inv (runA_of K).inv (fun x y => by rw [← (runA_of J).con, ← (runA_of K).con, h]) x
/-- A new one. -/
theorem unNew (w : World) : Calls Try.prog 7 #[] w fun e w' => ∃ pb, e = .returned (unP pb) ∧ Below w.heap.size w w' ∧ UnI w' (fun j => w.heap.size ≤ j ∧ j < w'.heap.size) pb [] := by
  refine (new_any w).mono ?_
  rintro e w' ⟨rfl, hb, hs, h1, h2, h3⟩
  refine ⟨_, rfl, hb, w.heap.size, w.heap.size + 1, fun _ => none, ?_⟩
  exact {
    mem := ⟨h3, MapU.new h1, MapU.new h2⟩
    ne := by omega
    sP := ⟨by omega, by omega⟩
    sN := ⟨by omega, by omega⟩
    sC := ⟨by omega, by omega⟩
    lt := fun j hj => hj.2
    lists := fun n => rfl
    apart := fun n n' c c' _ h => by cases h
    named := fun a n h => by cases h }
/-- Two of them, apart, and all that was below B. -/
def TwoI (B : Nat) (w W : World) (pb qb : Nat) (J K : List (Nat × Nat)) : Prop := Below B w W ∧ ∃ S T : Nat → Prop, UnI W S pb J ∧ UnI W T qb K ∧ (∀ j, S j → ¬ T j) ∧ (∀ j, S j → B ≤ j) ∧ (∀ j, T j → B ≤ j)
variable {B : Nat} {qb : Nat} {K : List (Nat × Nat)}
theorem TwoI.below (h : TwoI B w W pb qb J K) (hB : B ≤ W.heap.size) (k : Below W.heap.size W U) : TwoI B w U pb qb J K := by
  obtain ⟨h0, S, T, h1, h2, h3⟩ := h
  exact ⟨h0.trans (k.mono hB), S, T, h1.below k, h2.below k, h3⟩
theorem TwoI.swap (h : TwoI B w W pb qb J K) : TwoI B w W qb pb K J := by
  obtain ⟨h0, S, T, h1, h2, h3, h4, h5⟩ := h
  exact ⟨h0, T, S, h2, h1, fun j hj hs => h3 j hs hj, h5, h4⟩
theorem TwoI.join (h : TwoI B w W pb qb J K) (hB : B ≤ W.heap.size) (hJ : J.length ≤ 1000) (a b : Nat) : Calls Try.prog 8 #[unP pb, .int .u32 (a : Int), .int .u32 (b : Int)] W fun e w' =>
    e = .returned (.tuple #[.int .u32 ((joinA (runA J) a b).2.1 : Int), .bool (joinA (runA J) a b).2.2]) ∧ TwoI B w w' pb qb (J ++ [(a, b)]) K := by
  obtain ⟨h0, S, T, h1, h2, h3, h4, h5⟩ := h
  refine (h1.join hJ a b).mono ?_
  rintro e w' ⟨rfl, ht, hu⟩
  refine ⟨rfl, h0.trans (ht.below hB h4), growS S W w', T, hu, h2.beside ht (fun j hj hs => h3 j hs hj), fun j hj hT => ?_, fun j hj => ?_, h5⟩
  · rcases hj with hj | hj
    · exact h3 j hj hT
    · have := h2.lt j hT
      omega
  · rcases hj with hj | hj
    · exact h4 j hj
    · omega
end
end Go.Proofs.Ytloonndeojfepaa
