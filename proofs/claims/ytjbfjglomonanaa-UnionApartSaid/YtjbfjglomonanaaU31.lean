/-
  WHAT THE PROOF STANDS ON, a part of it: UnEff.
-/
import Derived.Test.YtjbfjglomonanaaU29
import Derived.Test.YtjbfjglomonanaaU30
/-
  THE PROGRAM'S JOINS AND THE REFERENCE'S, in mathematics: the same cliques; who were two, who stands for whom; the numbers of the joins.
-/

namespace Go.Proofs.Ytjbfjglomonanaa
set_option linter.unusedVariables false
set_option linter.unusedSimpArgs false

theorem leastJ_con (J : List (Nat × Nat)) (a : Nat) : Con J a (leastJ J a) := by
  obtain ⟨g, m, _⟩ := (runA_of J).inv.look a
  exact ((runA_of J).con _ _).2 ((m _).1 g.least)
theorem leastJ_le {J : List (Nat × Nat)} {a x : Nat} (h : Con J a x) : leastJ J a ≤ x := by
  obtain ⟨g, m, _⟩ := (runA_of J).inv.look a
  exact g.le x ((m x).2 (((runA_of J).con _ _).1 h))
theorem leastJ_eq {J : List (Nat × Nat)} {a x : Nat} (h : Con J a x) : leastJ J a = leastJ J x :=
  Nat.le_antisymm (leastJ_le (h.trans (leastJ_con J x))) (leastJ_le (h.symm.trans (leastJ_con J a)))
theorem cliqueJ_head {J : List (Nat × Nat)} {a : Nat} (ha : a ≠ 0) : ∃ t, cliqueJ J a = leastJ J a :: t := by
  have hm := (cliqueJ_mem (K := J) ha (leastJ J a)).2 (leastJ_con J a)
  have hr := cliqueJ_rise J a
  cases hL : cliqueJ J a with
  | nil => rw [hL] at hm; cases hm
  | cons h t =>
    rw [hL] at hm hr
    have hh := leastJ_le ((cliqueJ_mem (K := J) ha h).1 (by rw [hL]; exact List.mem_cons_self ..))
    rw [List.pairwise_cons] at hr
    rcases List.mem_cons.1 hm with e | e
    · exact ⟨t, by rw [e]⟩
    · have := hr.1 _ e
      omega
/-- The reference's joins K of the joins J. -/
structure Eff (J K : List (Nat × Nat)) : Prop where
  nz : ∀ z ∈ K, z.1 ≠ 0 ∧ z.2 ≠ 0
  con : ∀ x y, Con K x y ↔ Con J x y
  few : K.length ≤ J.length
  two : ∀ z ∈ K, z.1 ≠ z.2
theorem Eff.nil : Eff [] [] := ⟨fun z h => (by cases h), fun _ _ => Iff.rfl, Nat.le_refl _, fun z h => (by cases h)⟩
theorem sameK_iff {J K : List (Nat × Nat)} (h : Eff J K) {a b : Nat} (ha : a ≠ 0) (hb : b ≠ 0) : sameK K a b = true ↔ Con J a b := by
  unfold sameK
  rw [decide_eq_true_eq, cliqueJ_mem ha, h.con]
  constructor
  · rintro (h | h | h)
    · exact absurd h ha
    · exact absurd h hb
    · exact h
  · exact fun h => .inr (.inr h)
theorem Eff.join {J K : List (Nat × Nat)} (h : Eff J K) (a b : Nat) : Eff (J ++ [(a, b)]) (joinK K a b) ∧ (joinA (runA J) a b).2.2 = !sameK K a b ∧ (joinA (runA J) a b).2.1 = (if a = 0 ∨ b = 0 then 0 else leastJ (J ++ [(a, b)]) a) := by
  by_cases h0 : a = 0 ∨ b = 0
  · have hs : sameK K a b = true := decide_eq_true (h0.imp id .inl)
    unfold joinK joinA
    rw [if_pos hs, if_pos h0, if_pos h0, hs]
    exact ⟨⟨h.nz, fun x y => (h.con x y).trans (con_zero h0 x y).symm, by rw [List.length_append]; have := h.few; omega, h.two⟩, rfl, rfl⟩
  · have ha : a ≠ 0 := fun e => h0 (.inl e)
    have hb : b ≠ 0 := fun e => h0 (.inr e)
    have hl : leastJ (J ++ [(a, b)]) a = min (leastJ J a) (leastJ J b) := by
      have hab : Con (J ++ [(a, b)]) a b := .base (by simp) ha hb
      have up : ∀ {x y : Nat}, Con J x y → Con (J ++ [(a, b)]) x y := fun h => h.mono fun a b h => .inl (List.mem_append_left _ h)
      refine Nat.le_antisymm (Nat.le_min.2 ⟨leastJ_le (up (leastJ_con J a)), leastJ_le (hab.trans (up (leastJ_con J b)))⟩) ?_
      rcases (con_snoc ha hb a _).1 (leastJ_con (J ++ [(a, b)]) a) with h1 | ⟨_, h1⟩ | ⟨_, h1⟩
      · exact Nat.le_trans (Nat.min_le_left _ _) (leastJ_le h1)
      · exact Nat.le_trans (Nat.min_le_right _ _) (leastJ_le h1)
      · exact Nat.le_trans (Nat.min_le_left _ _) (leastJ_le h1)
    rw [if_neg h0, hl]
    have hiff : (lookA (runA J) a).1 = (lookA (runA J) b).1 ↔ Con J a b := ((runA_of J).inv.name_eq a b).trans ((runA_of J).con a b).symm
    by_cases hc : Con J a b
    · have hs : sameK K a b = true := (sameK_iff h ha hb).2 hc
      unfold joinK joinA
      rw [if_pos hs, if_neg h0, if_pos (hiff.2 hc), hs]
      refine ⟨⟨h.nz, fun x y => ?_, by rw [List.length_append]; have := h.few; omega, h.two⟩, rfl, ?_⟩
      · rw [h.con, con_snoc ha hb]
        constructor
        · exact .inl
        · rintro (h1 | ⟨h1, h2⟩ | ⟨h1, h2⟩)
          · exact h1
          · exact h1.trans (hc.trans h2)
          · exact h1.trans (hc.symm.trans h2)
      · rw [← leastJ_eq hc, Nat.min_self]
        rfl
    · have hs : sameK K a b = false := by
        cases hx : sameK K a b with
        | false => rfl
        | true => exact absurd ((sameK_iff h ha hb).1 hx) hc
      have hK : joinK K a b = K ++ [(a, b)] := if_neg (by rw [hs]; decide)
      have hn : ¬ (lookA (runA J) a).1 = (lookA (runA J) b).1 := fun e => hc (hiff.1 e)
      rw [hK, hs]
      unfold joinA
      rw [if_neg h0, if_neg hn]
      refine ⟨⟨fun z hz => ?_, fun x y => ?_, by rw [List.length_append, List.length_append]; exact Nat.add_le_add_right h.few _, fun z hz => ?_⟩, ?_, ?_⟩
      · rcases List.mem_append.1 hz with hz | hz
        · exact h.nz z hz
        · rw [List.mem_singleton] at hz
          rw [hz]
          exact ⟨ha, hb⟩
      · rw [con_snoc ha hb, con_snoc ha hb]
        simp only [h.con]
      · rcases List.mem_append.1 hz with hz | hz
        · exact h.two z hz
        · rw [List.mem_singleton] at hz
          rw [hz]
          exact fun e => hc (by rw [show a = b from e]; exact .refl _)
      · split <;> rfl
      · split
        · exact Nat.min_comm _ _
        · rfl
/-- The numbers of joins, in their order. -/
def numsK (K : List (Nat × Nat)) : List Nat := K.flatMap fun x => [x.1, x.2]
theorem numsK_mem {K : List (Nat × Nat)} {x : Nat} : x ∈ numsK K ↔ ∃ z ∈ K, x = z.1 ∨ x = z.2 := by
  unfold numsK
  rw [List.mem_flatMap]
  simp
/-- Those that stand for a clique are among the numbers. -/
theorem rep_num {J K : List (Nat × Nat)} (h : Eff J K) {r : Nat} : RepJ J r ↔ (r ∈ numsK K ∧ leastJ J r = r) := by
  constructor
  · rintro ⟨h1, y, hne, hc⟩
    refine ⟨numsK_mem.2 ?_, h1⟩
    rcases con_num ((h.con r y).2 hc) with e | ⟨h2, _⟩
    · exact absurd e.symm hne
    · rcases List.mem_append.1 h2 with h3 | h3
      · obtain ⟨z, hz, rfl⟩ := List.mem_map.1 h3
        exact ⟨z, hz, .inl rfl⟩
      · obtain ⟨z, hz, rfl⟩ := List.mem_map.1 h3
        exact ⟨z, hz, .inr rfl⟩
  · rintro ⟨h1, h2⟩
    obtain ⟨z, hz, hx⟩ := numsK_mem.1 h1
    have hb : Con J z.1 z.2 := (h.con _ _).1 (.base (show (z.1, z.2) ∈ K from hz) (h.nz z hz).1 (h.nz z hz).2)
    rcases hx with rfl | rfl
    · exact ⟨h2, z.2, fun e => h.two z hz e.symm, hb⟩
    · exact ⟨h2, z.1, h.two z hz, hb.symm⟩
/-- What All yields, of the rising list of all numbers. -/
theorem all_firsts {J K : List (Nat × Nat)} (h : Eff J K) {L : List (Nat × List Nat)} (ha : AllP J L) {A : List Nat} (hr : A.Pairwise (· < ·)) (hm : ∀ x, x ∈ A ↔ x ∈ numsK K) :
    L = (A.filter fun x => leastJ J x == x).map fun r => (r, cliqueJ K r) := by
  obtain ⟨R, rfl, h1, h2⟩ := ha
  have hR : R = A.filter fun x => leastJ J x == x := rise_eq h1 (hr.filter _) fun x => by
    rw [h2, rep_num h, List.mem_filter, hm, beq_iff_eq]
  rw [← hR]
  exact List.map_congr_left fun r _ => by rw [cliqueJ_same (fun x y => (h.con x y)) r]
/-- How many there are. -/
theorem count_firsts {J K : List (Nat × Nat)} (h : Eff J K) {A : List Nat} (hr : A.Pairwise (· < ·)) (hm : ∀ x, x ∈ A ↔ x ∈ numsK K) : CountOf (runA J) (A.filter fun x => leastJ J x == x).length := by
  intro ks hn hk
  have inv := (runA_of J).inv
  -- the least of each name
  have hnd : (ks.map fun n => (((runA J).ab n).getD (0, [])).1).Nodup := by
    rw [List.Nodup, List.pairwise_map]
    refine (List.Pairwise.and_mem.1 hn).imp ?_
    rintro x y ⟨hx, hy, hne⟩ e
    obtain ⟨⟨m, ns⟩, hab⟩ := Option.isSome_iff_exists.1 ((hk x).1 hx)
    obtain ⟨⟨m2, ns2⟩, hab2⟩ := Option.isSome_iff_exists.1 ((hk y).1 hy)
    rw [hab, hab2] at e
    simp only [Option.getD_some] at e
    subst e
    have e1 := look_of hab (inv.good _ _ _ hab).1.least
    have e2 := look_of hab2 (inv.good _ _ _ hab2).1.least
    rw [e1] at e2
    injection e2 with e2 _
    exact hne e2
  have hfn : (A.filter fun x => leastJ J x == x).Nodup := (hr.filter _).imp fun {a b} h => Nat.ne_of_lt h
  have hmem : ∀ r, r ∈ (ks.map fun n => (((runA J).ab n).getD (0, [])).1) ↔ r ∈ A.filter fun x => leastJ J x == x := fun r => by
    rw [List.mem_filter, hm, beq_iff_eq, ← rep_num h, List.mem_map]
    constructor
    · rintro ⟨n, hn, rfl⟩
      obtain ⟨⟨m, ns⟩, hab⟩ := Option.isSome_iff_exists.1 ((hk n).1 hn)
      obtain ⟨g, h2, _⟩ := inv.good _ _ _ hab
      obtain ⟨z, hz, hne⟩ := other_of g.nodup h2 m
      simp only [hab, Option.getD_some]
      exact ⟨by unfold leastJ; rw [look_of hab g.least], z, hne, con_of hab g.least hz⟩
    · rintro ⟨h1, y, hne, hc⟩
      rcases ((runA_of J).con r y).1 hc with e | ⟨n, hn, _⟩
      · exact absurd e.symm hne
      · obtain ⟨m, ns, hab, hx⟩ := (inv.nm r n).1 hn
        unfold leastJ at h1
        rw [look_of hab hx] at h1
        exact ⟨n, (hk n).2 (by rw [hab]; rfl), by simp only [hab, Option.getD_some]; exact h1⟩
  have h1 := nodup_le hnd fun x hx => (hmem x).1 hx
  have h2 := nodup_le hfn fun x hx => (hmem x).2 hx
  rw [List.length_map] at h1 h2
  omega
end Go.Proofs.Ytjbfjglomonanaa

