/-
  THE REFERENCE'S In, Put: contracts.
-/
import Derived.Test.YtloonndeojfepaaUnOrder
import Derived.Test.YtloonndeojfepaaOwnR
namespace Go.Proofs.Ytloonndeojfepaa
open Go.RowKit
set_option linter.unusedVariables false
set_option linter.unusedSimpArgs false

set_option maxRecDepth 100000 in
theorem refIn_any {ao : Option Addr} {cap : Nat} {l : List Nat} (a : Nat) {w : World} (h : ElR keyU w ao l) (hle : l.length ≤ 1000000) : Calls Try.prog 20 #[.slice ao l.length cap, .int .u32 (a : Int)] w fun e w' => e = .returned (.bool (decide (a ∈ l))) ∧ w' = w := by
  have H := Lib.hid h
  clear h
  obtain ⟨n, hn⟩ : ∃ n, n = l.length := ⟨_, rfl⟩
  rw [← hn] at hle ⊢
  have HN := Lib.hid hn
  clear hn
  go_enter Try.func20, Try.ntmps20
  go_wp2
  go_loopg [5] n (fun gg i wr => ∃ k : Nat, k ≤ n ∧ n - k ≤ gg ∧ i = .int .i64 (k : Int) ∧ a ∉ l.take k ∧ w = wr)
  case atStart => exact ⟨0, by omega, by omega, rfl, by simp, rfl⟩
  case round =>
    obtain ⟨k, hk, hg, rfl, hna, rfl⟩ := hrel
    obtain rfl | hkn : k = n ∨ k < n := by omega
    · have HE : Hid (decide (a ∈ l) = false) := Lib.hid (decide_eq_false (by rwa [List.take_of_length_le (by have := HN.out; omega)] at hna))
      clear hna
      go_wp2
      go_ret
      exact ⟨by rw [HE.out]; rfl, rfl⟩
    · have hkl : k < l.length := by have := HN.out; omega
      obtain ⟨g, o, rfl, hc⟩ := H.out (by omega)
      have c0 := hc k _ (List.getElem?_eq_getElem hkl)
      obtain ⟨x, hx⟩ : ∃ x, x = l[k] := ⟨_, rfl⟩
      rw [← hx] at c0
      have e4 : decide ((k : Int) < (n : Int)) = true := decide_eq_true (by omega)
      by_cases he : x = a
      · have e5 : ((x : Int) == (a : Int)) = true := by rw [beq_iff_eq, he]
        have HE : Hid (decide (a ∈ l) = true) := Lib.hid (decide_eq_true (by rw [← he, hx]; exact List.getElem_mem hkl))
        clear hna hc hx he
        go_wp2
        go_ret
        exact ⟨by rw [HE.out]; rfl, rfl⟩
      · have e5 : ((x : Int) == (a : Int)) = false := by rw [beq_eq_false_iff_ne]; omega
        have HNx : Hid (a ∉ l.take (k + 1)) := Lib.hid (by
          rw [List.take_add_one, List.getElem?_eq_getElem hkl, ← hx]
          intro hm
          rcases List.mem_append.1 hm with hm | hm
          · exact hna hm
          · simp at hm
            exact he hm.symm)
        clear hna hc hx he
        go_wp2
        go_roundg (n - (k + 1))
        case measure => omega
        case rel => exact ⟨k + 1, by omega, by omega, by go_num, HNx.out, rfl⟩
def stepP (a : Nat) (s : List Nat × Bool) (x : Nat) : List Nat × Bool := if s.2 = false ∧ a < x then (s.1 ++ [a, x], true) else (s.1 ++ [x], s.2)
/-- A number put into a rising list. -/
def putL (l : List Nat) (a : Nat) : List Nat := if (l.foldl (stepP a) ([], false)).2 then (l.foldl (stepP a) ([], false)).1 else (l.foldl (stepP a) ([], false)).1 ++ [a]
theorem fold_done (a : Nat) : ∀ (l acc : List Nat), l.foldl (stepP a) (acc, true) = (acc ++ l, true)
  | [], acc => by simp
  | x :: l, acc => by
    rw [List.foldl_cons]
    have : stepP a (acc, true) x = (acc ++ [x], true) := by simp [stepP]
    rw [this, fold_done a l]
    simp
theorem fold_put (a : Nat) : ∀ (l acc : List Nat), l.Pairwise (· < ·) → a ∉ l → l.foldl (stepP a) (acc, false) = (if ∃ x ∈ l, a < x then (acc ++ l.filter (fun x => decide (x < a)) ++ [a] ++ l.filter (fun x => decide (a < x)), true) else (acc ++ l, false))
  | [], acc, _, _ => by simp
  | x :: l, acc, hp, hn => by
    rw [List.pairwise_cons] at hp
    rw [List.foldl_cons]
    by_cases h : a < x
    · have e : stepP a (acc, false) x = (acc ++ [a, x], true) := by simp [stepP, h]
      rw [e, fold_done, if_pos ⟨x, by simp, h⟩]
      have f1 : (x :: l).filter (fun x => decide (x < a)) = [] := by
        rw [List.filter_eq_nil_iff]
        intro y hy
        rcases List.mem_cons.1 hy with rfl | hy
        · simp; omega
        · have := hp.1 y hy
          simp; omega
      have f2 : (x :: l).filter (fun x => decide (a < x)) = x :: l := by
        rw [List.filter_eq_self]
        intro y hy
        rcases List.mem_cons.1 hy with rfl | hy
        · simpa using h
        · have := hp.1 y hy
          simp; omega
      rw [f1, f2]
      simp
    · have hx : x < a := by
        have : x ≠ a := fun e => hn (by simp [e])
        omega
      have e : stepP a (acc, false) x = (acc ++ [x], false) := by simp [stepP, h]
      rw [e, fold_put a l _ hp.2 (fun hm => hn (by simp [hm]))]
      by_cases h2 : ∃ y ∈ l, a < y
      · have h3 : ∃ y ∈ x :: l, a < y := by
          obtain ⟨y, hy, hay⟩ := h2
          exact ⟨y, by simp [hy], hay⟩
        rw [if_pos h2, if_pos h3]
        simp [List.filter_cons, hx, h]
      · have h3 : ¬ ∃ y ∈ x :: l, a < y := by
          rintro ⟨y, hy, hay⟩
          rcases List.mem_cons.1 hy with rfl | hy
          · exact h hay
          · exact h2 ⟨y, hy, hay⟩
        rw [if_neg h2, if_neg h3]
        simp
theorem putL_is {l : List Nat} {a : Nat} (hp : l.Pairwise (· < ·)) (hn : a ∉ l) : (putL l a).Pairwise (· < ·) ∧ (∀ x, x ∈ putL l a ↔ x ∈ l ∨ x = a) ∧ (putL l a).length = l.length + 1 := by
  unfold putL
  rw [fold_put a l [] hp hn]
  by_cases h : ∃ x ∈ l, a < x
  · rw [if_pos h]
    dsimp only
    rw [if_pos rfl, List.nil_append]
    have hp1 : (l.filter (fun x => decide (x < a))).Pairwise (· < ·) := hp.filter _
    have hp2 : (l.filter (fun x => decide (a < x))).Pairwise (· < ·) := hp.filter _
    have hpw : (l.filter (fun x => decide (x < a)) ++ [a] ++ l.filter (fun x => decide (a < x))).Pairwise (· < ·) := by
      rw [List.append_assoc, List.pairwise_append]
      refine ⟨hp1, ?_, ?_⟩
      · rw [List.singleton_append, List.pairwise_cons]
        refine ⟨fun y hy => ?_, hp2⟩
        simpa using (List.mem_filter.1 hy).2
      · intro x hx y hy
        have hx := of_decide_eq_true (List.mem_filter.1 hx).2
        rcases List.mem_cons.1 hy with rfl | hy
        · exact hx
        · have := of_decide_eq_true (List.mem_filter.1 hy).2
          omega
    have hm : ∀ x, x ∈ l.filter (fun x => decide (x < a)) ++ [a] ++ l.filter (fun x => decide (a < x)) ↔ x ∈ l ∨ x = a := fun x => by
      simp only [List.mem_append, List.mem_filter, List.mem_singleton, decide_eq_true_eq]
      constructor
      · rintro ((⟨h1, _⟩ | h1) | ⟨h1, _⟩)
        · exact .inl h1
        · exact .inr h1
        · exact .inl h1
      · rintro (h1 | h1)
        · rcases Nat.lt_trichotomy x a with h2 | h2 | h2
          · exact .inl (.inl ⟨h1, h2⟩)
          · exact .inl (.inr h2)
          · exact .inr ⟨h1, h2⟩
        · exact .inl (.inr h1)
    refine ⟨hpw, hm, ?_⟩
    have hnd := hpw.imp (fun {a b} h => Nat.ne_of_lt h)
    have hnl := hp.imp (fun {a b} h => Nat.ne_of_lt h)
    have hna : (a :: l).Nodup := List.nodup_cons.2 ⟨hn, hnl⟩
    have l1 := nodup_le (k := a :: l) hnd fun x hx => by
      rcases (hm x).1 hx with h1 | h1
      · exact List.mem_cons_of_mem _ h1
      · rw [h1]; exact List.mem_cons_self ..
    have l2 := nodup_le hna (k := l.filter (fun x => decide (x < a)) ++ [a] ++ l.filter (fun x => decide (a < x))) fun x hx => by
      rcases List.mem_cons.1 hx with h1 | h1
      · exact (hm x).2 (.inr h1)
      · exact (hm x).2 (.inl h1)
    rw [List.length_cons] at l1 l2
    omega
  · rw [if_neg h]
    dsimp only
    rw [if_neg (by simp), List.nil_append]
    refine ⟨?_, fun x => by simp, by simp⟩
    rw [List.pairwise_append]
    refine ⟨hp, by simp, fun x hx y hy => ?_⟩
    rw [List.mem_singleton] at hy
    subst hy
    have h1 : x ≠ y := fun e => hn (e ▸ hx)
    have h2 : ¬ y < x := fun h3 => h ⟨x, hx, h3⟩
    omega
end Go.Proofs.Ytloonndeojfepaa
