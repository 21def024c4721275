/-
  WHAT THE PROOF STANDS ON, a part of it: LexOneMath.
-/
import Derived.Test.YtfldpfomecjdkaaGreatDoorR31
import Derived.Test.YtfldpfomecjdkaaGreatDoorR33
/-
  PLAIN MATHEMATICS: one symbol, in the order in which the reference goes about it.
-/

namespace Go.Proofs.YtfldpfomecjdkaaGreatDoor
open Go.RowKit
open Utf Term Lex

/-- A word, as the reference goes about it: a letter first. -/
def wordE (l : List Int) : Nat := if letter (l.headD 0) = true then spanL letterDigit l else 0

theorem letter_ld {c : Int} (h : letter c = true) : letterDigit c = true := by unfold letterDigit; rw [h]; rfl
theorem letter_nodigit {c : Int} (h : letter c = true) : digit c = false := by
  unfold letter small at h
  unfold digit
  simp only [Bool.or_eq_true, Bool.and_eq_true, decide_eq_true_eq] at h
  rw [Bool.and_eq_false_iff, decide_eq_false_iff_not, decide_eq_false_iff_not]
  omega
theorem span_zero {p : Int → Bool} {c : Int} {r : List Int} (h : p c = false) : spanL p (c :: r) = 0 := by
  unfold spanL
  rw [List.takeWhile_cons, if_neg (by rw [h]; decide)]
  rfl
theorem span_succ {p : Int → Bool} {c : Int} {r : List Int} (h : p c = true) : spanL p (c :: r) = spanL p r + 1 := by
  unfold spanL
  rw [List.takeWhile_cons, if_pos h]
  rfl
theorem wordE_le (l : List Int) : wordE l ≤ l.length := by
  unfold wordE
  split
  · exact runL_le _ _
  · exact Nat.zero_le _
theorem wordE_yes {c : Int} {r : List Int} (h : letter c = true) : wordE (c :: r) = spanL letterDigit (c :: r) := by
  unfold wordE
  rw [if_pos (by exact h)]
theorem wordE_no {c : Int} {r : List Int} (h : letter c = false) : wordE (c :: r) = 0 := by
  unfold wordE
  rw [if_neg (by rw [List.headD_cons, h]; decide)]
theorem isWord_take {l : List Int} {n : Nat} (hn : n = spanL letterDigit l) : isWordL (l.take n) = (decide (0 < wordE l) && decide (wordE l ≤ 32)) := by
  subst hn
  have hle := runL_le letterDigit l
  unfold isWordL
  rw [List.length_take, Nat.min_eq_left hle]
  cases l with
  | nil => rfl
  | cons c r =>
    cases hl : letter c with
    | true =>
      rw [wordE_yes hl]
      have h1 : spanL letterDigit (c :: r) = spanL letterDigit r + 1 := span_succ (letter_ld hl)
      rw [h1, List.take_succ_cons, List.headD_cons, letter_nodigit hl]
      simp
    | false =>
      rw [wordE_no hl]
      cases hd : digit c with
      | true =>
        have h1 : spanL letterDigit (c :: r) = spanL letterDigit r + 1 := span_succ (by unfold letterDigit; rw [hd, Bool.or_true])
        rw [h1, List.take_succ_cons, List.headD_cons, hd]
        simp
      | false =>
        have h1 : spanL letterDigit (c :: r) = 0 := span_zero (by unfold letterDigit; rw [hl, hd]; rfl)
        rw [h1]
        rfl

theorem den_nl {all : Bool} {stop : Int} : ∀ {n : Nat} {l t : List Int} {k : Nat}, l.length ≤ n → den true all stop l = some (t, k) → den false all stop l = some (t, k)
  | n, [], t, k, _, h => by cases h
  | 0, c :: l, t, k, hn, h => by simp at hn
  | n + 1, c :: l, t, k, hn, h => by
    simp only [List.length_cons] at hn
    rw [den_cons] at h ⊢
    by_cases h1 : c = stop
    · rw [if_pos h1] at h ⊢; exact h
    rw [if_neg h1] at h ⊢
    rw [if_neg (by simp)]
    by_cases h2 : c = 10 ∨ c = 13
    · rw [if_pos ⟨rfl, h2⟩] at h; cases h
    rw [if_neg (fun e => h2 e.2)] at h
    by_cases h3 : c = 92
    · rw [if_pos h3] at h ⊢
      cases he : escL all l with
      | none => rw [he] at h; cases h
      | some x =>
        obtain ⟨b, k'⟩ := x
        rw [he] at h
        have hp := escL_pos he
        simp only at h ⊢
        cases hd : den true all stop (l.drop (k' - 1)) with
        | none => rw [hd] at h; cases h
        | some y =>
          obtain ⟨t', k2⟩ := y
          rw [den_nl (n := n) (by rw [List.length_drop]; omega) hd, ← hd]
          exact h
    · rw [if_neg h3] at h ⊢
      cases hd : den true all stop l with
      | none => rw [hd] at h; cases h
      | some y =>
        obtain ⟨t', k2⟩ := y
        rw [den_nl (n := n) (by omega) hd, ← hd]
        exact h
theorem den_nl2 {all : Bool} {stop : Int} : ∀ {n : Nat} {l t : List Int} {k : Nat}, l.length ≤ n → den false all stop l = some (t, k) → (∀ c ∈ t, c ≠ 10 ∧ c ≠ 13) → den true all stop l = some (t, k)
  | n, [], t, k, _, h, _ => by cases h
  | 0, c :: l, t, k, hn, h, _ => by simp at hn
  | n + 1, c :: l, t, k, hn, h, ht => by
    simp only [List.length_cons] at hn
    rw [den_cons] at h ⊢
    by_cases h1 : c = stop
    · rw [if_pos h1] at h ⊢; exact h
    rw [if_neg h1] at h ⊢
    rw [if_neg (by simp)] at h
    by_cases h3 : c = 92
    · rw [if_neg (by rintro ⟨_, e⟩; omega)]
      rw [if_pos h3] at h ⊢
      cases he : escL all l with
      | none => rw [he] at h; cases h
      | some x =>
        obtain ⟨b, k'⟩ := x
        rw [he] at h
        have hp := escL_pos he
        simp only at h ⊢
        cases hd : den false all stop (l.drop (k' - 1)) with
        | none => rw [hd] at h; cases h
        | some y =>
          obtain ⟨t', k2⟩ := y
          rw [hd] at h
          simp only [Option.map_some, Option.some.injEq, Prod.mk.injEq] at h
          rw [den_nl2 (n := n) (by rw [List.length_drop]; omega) hd (fun c hc => ht c (by rw [← h.1]; exact List.mem_append_right _ hc))]
          simp only [Option.map_some, Option.some.injEq, Prod.mk.injEq]
          exact h
    · rw [if_neg h3] at h
      cases hd : den false all stop l with
      | none => rw [hd] at h; cases h
      | some y =>
        obtain ⟨t', k2⟩ := y
        rw [hd] at h
        simp only [Option.map_some, Option.some.injEq, Prod.mk.injEq] at h
        have hc := ht c (by rw [← h.1]; exact List.mem_cons_self)
        rw [if_neg (by rintro ⟨_, e⟩; omega), if_neg h3, den_nl2 (n := n) (by omega) hd (fun c hc => ht c (by rw [← h.1]; exact List.mem_cons_of_mem _ hc))]
        simp only [Option.map_some, Option.some.injEq, Prod.mk.injEq]
        exact h

theorem iri_chars0 {l : List Int} (h : isIRIB l = true) : ∀ c ∈ l, c ≠ 10 ∧ c ≠ 13 := by
  unfold isIRIB at h
  simp only [Bool.and_eq_true, decide_eq_true_eq] at h
  rw [eachB_eq iriC_high (by omega)] at h
  simp only [Bool.and_eq_true, List.all_eq_true] at h
  intro c hm
  have := h.2.2 c hm
  refine ⟨?_, ?_⟩ <;> (rintro rfl; revert this; decide)

def iriR (r : List Int) : Took := match den false false 62 r with | none => .bad | some (t, n) => if isIRIB t = true then .got ⟨1, [], 1, t, [], 0⟩ (1 + n) else .bad
def blankR (r : List Int) : Took := if isBlankB (r.take (wordE r)) = true then .got ⟨2, [], 2, r.take (wordE r), [], 0⟩ (2 + wordE r) else .bad
def quotedR (r : List Int) : Took := match den true true 34 r with | none => .bad | some (t, n) => .got (symT 3 t) (1 + n)
def langR (r : List Int) : Took := if tagL (r.take (spanL langC r)) = true then .got (symT 4 (r.take (spanL langC r))) (1 + spanL langC r) else .bad
def varR (r : List Int) : Took := if 0 < wordE r ∧ wordE r ≤ 32 then .got (symT 5 (r.take (wordE r))) (1 + wordE r) else .bad
def namedR (l : List Int) : Took :=
  if (wordE l = 0 ∧ l.getD 0 0 ≠ 58) ∨ 32 < wordE l then .bad
  else if l.getD (wordE l) 0 ≠ 58 ∨ l.getD (wordE l + 1) 0 = 45 then .got (symT 6 (l.take (wordE l))) (wordE l)
  else if 64 < spanL localC (l.drop (wordE l + 1)) then .bad
  else .got (symT 7 (l.take (wordE l + 1 + spanL localC (l.drop (wordE l + 1))))) (wordE l + 1 + spanL localC (l.drop (wordE l + 1)))

theorem iriR_eq (r : List Int) : iriT (60 :: r) = iriR r := by
  unfold iriT iriR
  rw [if_pos (by simp [List.isPrefixOf]), List.drop_succ_cons, List.drop_zero]
  cases hf : den false false 62 r with
  | none =>
    cases ht : den true false 62 r with
    | none => rfl
    | some y => rw [den_nl (Nat.le_refl _) ht] at hf; cases hf
  | some y =>
    obtain ⟨t, n⟩ := y
    simp only
    cases hi : isIRIB t with
    | true =>
      rw [den_nl2 (Nat.le_refl _) hf (iri_chars0 hi)]
      simp only [hi]
    | false =>
      cases ht : den true false 62 r with
      | none => rfl
      | some z =>
        obtain ⟨z1, z2⟩ := z
        rw [den_nl (Nat.le_refl _) ht] at hf
        simp only [Option.some.injEq, Prod.mk.injEq] at hf
        obtain ⟨rfl, rfl⟩ := hf
        simp only [hi]
theorem blankR_eq (r : List Int) : blankT (95 :: 58 :: r) = blankR r := by
  unfold blankT blankR
  rw [if_pos (by simp [List.isPrefixOf]), List.drop_succ_cons, List.drop_succ_cons, List.drop_zero]
  cases r with
  | nil => rfl
  | cons c r =>
    cases hl : letter c with
    | true => rw [wordE_yes hl]
    | false =>
      rw [wordE_no hl, List.take_zero]
      have hh : isBlankB ((c :: r).take (spanL letterDigit (c :: r))) = false := by
        cases hs : spanL letterDigit (c :: r) with
        | zero => rw [List.take_zero]; rfl
        | succ n =>
          rw [List.take_succ_cons]
          unfold isBlankB
          rw [List.headD_cons, hl]
          simp
      rw [hh]
      rfl
theorem quotedR_eq (r : List Int) : quotedT (34 :: r) = quotedR r := by
  unfold quotedT quotedR
  rw [if_pos (by simp [List.isPrefixOf]), List.drop_succ_cons, List.drop_zero]
  cases den true true 34 r <;> rfl
theorem langR_eq (r : List Int) : langT (64 :: r) = langR r := by
  unfold langT langR
  rw [if_pos (by simp [List.isPrefixOf]), List.drop_succ_cons, List.drop_zero]
theorem varR_eq (r : List Int) : varT (63 :: r) = varR r := by
  unfold varT varR
  rw [if_pos (by simp [List.isPrefixOf]), List.drop_succ_cons, List.drop_zero, isWord_take rfl]
  by_cases h : 0 < wordE r ∧ wordE r ≤ 32
  · rw [if_pos h, if_pos (by simp [h.1, h.2])]
    have hs : wordE r = spanL letterDigit r := by
      unfold wordE at h ⊢
      split at h
      · rename_i hl; rw [if_pos hl]
      · exact absurd h.1 (by decide)
    rw [hs]
  · rw [if_neg h, if_neg (by simp only [Bool.and_eq_true, decide_eq_true_eq]; exact h)]

theorem name_head {c : Int} {r : List Int} (h1 : letterDigit c = false) (h2 : c ≠ 58) : nameT (c :: r) = .no ∧ wordT (c :: r) = .no := by
  have hs : spanL letterDigit (c :: r) = 0 := span_zero h1
  unfold nameT wordT
  rw [hs, List.drop_zero, if_pos rfl, if_neg]
  · exact ⟨rfl, rfl⟩
  · unfold colonB
    simp [List.isPrefixOf]
    intro e
    exact absurd e.symm h2
theorem head_others {c : Int} {r : List Int} : (c ≠ 63 → varT (c :: r) = .no) ∧ (c ≠ 34 → quotedT (c :: r) = .no) ∧ (c ≠ 60 → iriT (c :: r) = .no) ∧ (c ≠ 95 → blankT (c :: r) = .no) ∧ (c ≠ 64 → langT (c :: r) = .no) := by
  refine ⟨fun h => ?_, fun h => ?_, fun h => ?_, fun h => ?_, fun h => ?_⟩
  · unfold varT; rw [if_neg (by simp [List.isPrefixOf]; exact fun e => h e.symm)]
  · unfold quotedT; rw [if_neg (by simp [List.isPrefixOf]; exact fun e => h e.symm)]
  · unfold iriT; rw [if_neg (by simp [List.isPrefixOf]; exact fun e => h e.symm)]
  · unfold blankT; rw [if_neg (by simp [List.isPrefixOf]; exact fun e => absurd e.symm h)]
  · unfold langT; rw [if_neg (by simp [List.isPrefixOf]; exact fun e => h e.symm)]
theorem one_at_mark {l : List Int} {x : Sym} {n : Nat} (h : markT l = .got x n) : one l = .got x n := by
  unfold one takers
  rw [h]
  rfl
theorem firstT_no (L : List Took) : firstT (.no :: L) = firstT L := rfl
theorem firstT_yes {x : Took} (h : x ≠ .no) (L : List Took) : firstT (x :: L) = x := by
  cases x with
  | no => exact absurd rfl h
  | bad => rfl
  | got y n => rfl
theorem iriR_ne (r : List Int) : iriR r ≠ .no := by
  unfold iriR
  cases den false false 62 r with
  | none => intro h; cases h
  | some y => simp only; split <;> (intro h; cases h)
theorem blankR_ne (r : List Int) : blankR r ≠ .no := by unfold blankR; split <;> (intro h; cases h)
theorem quotedR_ne (r : List Int) : quotedR r ≠ .no := by
  unfold quotedR
  cases den true true 34 r <;> (intro h; cases h)
theorem langR_ne (r : List Int) : langR r ≠ .no := by unfold langR; split <;> (intro h; cases h)
theorem varR_ne (r : List Int) : varR r ≠ .no := by unfold varR; split <;> (intro h; cases h)
theorem oneR_60 {r : List Int} (hm : markT (60 :: r) = .no) : one (60 :: r) = iriR r := by
  obtain ⟨h1, h2⟩ := name_head (c := 60) (r := r) (by decide) (by decide)
  obtain ⟨o1, o2, o3, o4, o5⟩ := head_others (c := 60) (r := r)
  unfold one takers
  rw [hm, h1, h2, o1 (by decide), o2 (by decide), iriR_eq]
  simp only [firstT_no]
  exact firstT_yes (iriR_ne r) _
theorem oneR_95 {r : List Int} (hm : markT (95 :: 58 :: r) = .no) : one (95 :: 58 :: r) = blankR r := by
  obtain ⟨h1, h2⟩ := name_head (c := 95) (r := 58 :: r) (by decide) (by decide)
  obtain ⟨o1, o2, o3, o4, o5⟩ := head_others (c := 95) (r := 58 :: r)
  unfold one takers
  rw [hm, h1, h2, o1 (by decide), o2 (by decide), o3 (by decide), blankR_eq]
  simp only [firstT_no]
  exact firstT_yes (blankR_ne r) _
theorem oneR_34 {r : List Int} (hm : markT (34 :: r) = .no) : one (34 :: r) = quotedR r := by
  obtain ⟨h1, h2⟩ := name_head (c := 34) (r := r) (by decide) (by decide)
  obtain ⟨o1, o2, o3, o4, o5⟩ := head_others (c := 34) (r := r)
  unfold one takers
  rw [hm, h1, h2, o1 (by decide), quotedR_eq]
  simp only [firstT_no]
  exact firstT_yes (quotedR_ne r) _
theorem oneR_64 {r : List Int} (hm : markT (64 :: r) = .no) : one (64 :: r) = langR r := by
  obtain ⟨h1, h2⟩ := name_head (c := 64) (r := r) (by decide) (by decide)
  obtain ⟨o1, o2, o3, o4, o5⟩ := head_others (c := 64) (r := r)
  unfold one takers
  rw [hm, h1, h2, o1 (by decide), o2 (by decide), o3 (by decide), o4 (by decide), langR_eq]
  simp only [firstT_no]
  exact firstT_yes (langR_ne r) _
theorem oneR_63 {r : List Int} (hm : markT (63 :: r) = .no) : one (63 :: r) = varR r := by
  obtain ⟨h1, h2⟩ := name_head (c := 63) (r := r) (by decide) (by decide)
  unfold one takers
  rw [hm, h1, h2, varR_eq]
  simp only [firstT_no]
  exact firstT_yes (varR_ne r) _

theorem colonB_drop (l : List Int) (n : Nat) : colonB (l.drop n) = (decide (l.getD n 0 = 58) && !decide (l.getD (n + 1) 0 = 45)) := by
  have e0 : l.getD n 0 = (l.drop n).getD 0 0 := by simp [List.getD_eq_getElem?_getD]
  have e1 : l.getD (n + 1) 0 = (l.drop n).getD 1 0 := by simp [List.getD_eq_getElem?_getD]
  rw [e0, e1]
  unfold colonB
  match l.drop n with
  | [] => rfl
  | [a] =>
    by_cases h : a = 58
    · subst h; rfl
    · have e : ((58 : Int) == a) = false := by rw [beq_eq_false_iff_ne]; exact fun x => h x.symm
      simp [List.isPrefixOf, h, e]
  | a :: b :: r =>
    by_cases h : a = 58
    · subst h
      by_cases h2 : b = 45
      · subst h2; rfl
      · have e : ((45 : Int) == b) = false := by rw [beq_eq_false_iff_ne]; exact fun x => h2 x.symm
        simp [List.isPrefixOf, h2, e]
    · have e : ((58 : Int) == a) = false := by rw [beq_eq_false_iff_ne]; exact fun x => h x.symm
      simp [List.isPrefixOf, h, e]
theorem mark_colon {r : List Int} (hm : markT (58 :: r) = .no) : r.getD 0 0 ≠ 45 := by
  intro h
  match r, h with
  | [], h => exact absurd h (by decide)
  | b :: r, h =>
    have hb : b = 45 := h
    subst hb
    unfold markT markL at hm
    simp [List.isPrefixOf] at hm
theorem oneR_named {c : Int} {r : List Int} (hm : markT (c :: r) = .no) (n1 : c ≠ 60) (n2 : ¬ (c = 95 ∧ r.getD 0 0 = 58)) (n3 : c ≠ 34) (n4 : c ≠ 64) (n5 : c ≠ 63) : one (c :: r) = namedR (c :: r) := by
  obtain ⟨o1, o2, o3, o4, o5⟩ := head_others (c := c) (r := r)
  have hb : blankT (c :: r) = .no := by
    unfold blankT
    rw [if_neg]
    intro h
    match r, h, n2 with
    | [], h, _ => simp [List.isPrefixOf] at h
    | b :: r, h, n2 =>
      simp [List.isPrefixOf] at h
      exact n2 ⟨h.1.symm, h.2.symm⟩
  have hone : one (c :: r) = firstT [nameT (c :: r), wordT (c :: r)] := by
    unfold one takers
    rw [hm, o1 n5, o2 n3, o3 n1, hb, o5 n4]
    simp only [firstT_no]
    cases nameT (c :: r) with
    | no => cases wordT (c :: r) <;> rfl
    | bad => rfl
    | got y n => rfl
  rw [hone]
  unfold namedR
  cases hl : letter c with
  | true =>
    have hw := wordE_yes (r := r) hl
    have hp : 0 < wordE (c :: r) := by rw [hw, span_succ (letter_ld hl)]; omega
    have hiw := isWord_take (l := c :: r) rfl
    unfold nameT wordT
    rw [← hw] at hiw ⊢
    rw [colonB_drop, hiw, if_neg (show ¬ wordE (c :: r) = 0 by omega)]
    simp only [hp, decide_true, Bool.true_and, true_and]
    by_cases h32 : 32 < wordE (c :: r)
    · have e0 : (wordE (c :: r) = 0 ∧ (c :: r).getD 0 0 ≠ 58) ∨ 32 < wordE (c :: r) := Or.inr h32
      have e1 : decide (wordE (c :: r) ≤ 32) = false := decide_eq_false (by omega)
      rw [if_pos e0, e1]
      simp only [Bool.false_eq_true, if_false, true_or, if_true]
      split <;> rfl
    · have e0 : ¬ ((wordE (c :: r) = 0 ∧ (c :: r).getD 0 0 ≠ 58) ∨ 32 < wordE (c :: r)) := fun e => e.elim (fun e => by omega) h32
      have e1 : decide (wordE (c :: r) ≤ 32) = true := decide_eq_true (by omega)
      rw [if_neg e0, e1]
      simp only [Bool.true_eq_false, false_or, if_true]
      by_cases hc : (c :: r).getD (wordE (c :: r)) 0 ≠ 58 ∨ (c :: r).getD (wordE (c :: r) + 1) 0 = 45
      · rw [if_pos (show (c :: r).getD (wordE (c :: r)) 0 ≠ 58 ∨ (c :: r).getD (wordE (c :: r) + 1) 0 = 45 from hc), if_neg (by simp only [Bool.and_eq_true, decide_eq_true_eq, Bool.not_eq_true', decide_eq_false_iff_not]; exact fun e => hc.elim (fun h => h e.1) (fun h => e.2 h))]
        rfl
      · have hc2 : (c :: r).getD (wordE (c :: r)) 0 = 58 ∧ ¬ (c :: r).getD (wordE (c :: r) + 1) 0 = 45 := by
          refine ⟨?_, fun e => hc (.inr e)⟩
          exact Classical.byContradiction fun e => hc (.inl e)
        rw [if_neg hc, if_pos (by simp only [Bool.and_eq_true, decide_eq_true_eq, Bool.not_eq_true', decide_eq_false_iff_not]; exact hc2)]
        split <;> rfl
  | false =>
    have hw := wordE_no (r := r) hl
    rw [hw]
    by_cases h58 : c = 58
    · subst h58
      have hs : spanL letterDigit (58 :: r) = 0 := span_zero (by decide)
      have hn := mark_colon hm
      have hcb : colonB (58 :: r) = true := by
        have := colonB_drop (58 :: r) 0
        rw [List.drop_zero] at this
        rw [this]
        simp only [List.getD_cons_zero, Nat.zero_add, List.getD_cons_succ, decide_true, Bool.true_and, Bool.not_eq_true', decide_eq_false_iff_not]
        exact hn
      have e1 : ¬ ((0 = 0 ∧ (58 :: r).getD 0 0 ≠ 58) ∨ 32 < 0) := by
        rw [List.getD_cons_zero]
        omega
      have e2 : ¬ ((58 :: r).getD 0 0 ≠ 58 ∨ (58 :: r).getD (0 + 1) 0 = 45) := by
        rw [List.getD_cons_zero, List.getD_cons_succ]
        rintro (e | e)
        · exact e rfl
        · exact hn e
      have e3 : nameT (58 :: r) = if 64 < spanL localC ((58 :: r).drop (0 + 1)) then .bad else .got (symT 7 ((58 :: r).take (0 + 1 + spanL localC ((58 :: r).drop (0 + 1))))) (0 + 1 + spanL localC ((58 :: r).drop (0 + 1))) := by
        unfold nameT
        rw [hs, List.drop_zero, if_pos hcb]
        by_cases h : 64 < spanL localC ((58 :: r).drop (0 + 1))
        · rw [if_pos h, if_pos (.inr h)]
        · rw [if_neg h, if_neg (fun e => e.elim (fun e => by omega) h)]
      rw [if_neg e1, if_neg e2, e3]
      split <;> rfl
    · rw [if_pos (.inl ⟨rfl, by rw [List.getD_cons_zero]; exact h58⟩)]
      cases hd : digit c with
      | false =>
        obtain ⟨h1, h2⟩ := name_head (r := r) (show letterDigit c = false by unfold letterDigit; rw [hl, hd]; rfl) h58
        rw [h1, h2]
        rfl
      | true =>
        have hs : spanL letterDigit (c :: r) = spanL letterDigit r + 1 := span_succ (by unfold letterDigit; rw [hd, Bool.or_true])
        have hiw : isWordL ((c :: r).take (spanL letterDigit (c :: r))) = false := by rw [isWord_take rfl, hw]; rfl
        unfold nameT wordT
        rw [hiw, if_neg (show ¬ spanL letterDigit (c :: r) = 0 by omega)]
        have hp : 0 < spanL letterDigit (c :: r) := by omega
        simp only [hp, true_and, true_or, if_true, Bool.false_eq_true, if_false]
        split <;> rfl
end Go.Proofs.YtfldpfomecjdkaaGreatDoor
