/-
  WHAT THE PROOF STANDS ON, a part of it: LexMeansCalls, ReadMath, GoodSyms, RuMath, ReadAny, ReadWhole, NtPure, RuPure, RuGood, LexRefRun, ReadRead, LexRefRes, LexReadPure, LexRefRead, LexPrefixes, RuSuffix.
-/
import Derived.Test.YtbcoklbfebmpoaaGreatDoorU17
import Derived.Test.YtbcoklbfebmpoaaGreatDoorU21
import Derived.Test.YtbcoklbfebmpoaaGreatDoorU19
import Derived.Test.YtbcoklbfebmpoaaGreatDoorU33
import Derived.Test.YtbcoklbfebmpoaaGreatDoorU34
import Derived.Deep.AppendLies
import Derived.Deep.Upon
import Derived.Laws.OwnMore
import Derived.Deep.Draws
import Derived.Test.YtbcoklbfebmpoaaGreatDoorU20
import Derived.Test.YtbcoklbfebmpoaaGreatDoorU30
import Derived.Test.YtbcoklbfebmpoaaGreatDoorU29


/-
  PLAIN MATHEMATICS: two texts with a byte 10 between them have the symbols of both.
-/
namespace Go.Proofs.YtbcoklbfebmpoaaGreatDoor.Lex
open Utf Term

theorem skF (c : Int) (l : List Int) : sk false (c :: l) = if isWS c = true then 1 + sk false l else if c = 35 then 1 + sk true l else 0 := rfl
def shiftS (d : Nat) (x : Sym) : Sym := { x with place := x.place + d }
end Go.Proofs.YtbcoklbfebmpoaaGreatDoor.Lex

/-
  PLAIN MATHEMATICS: the symbols of a term's text.
-/
namespace Go.Proofs.YtbcoklbfebmpoaaGreatDoor.Lex
open Utf Term

/-- What stands for a byte in quotes is read as it. -/
def formC (c : Int) : Bool :=
  match shown c with
  | [x] => decide (x = c) && decide (x ≠ 34) && decide (x ≠ 10) && decide (x ≠ 13) && decide (x ≠ 92)
  | [a, e] => decide (a = 92) && decide (e ≠ 117) && decide (e ≠ 85) && decide (shortE e = some c)
  | [a, b, x, y, h, g] => decide (a = 92) && decide (b = 117) && hexOK [x, y, h, g] && decide (hexV [x, y, h, g] = c) && decide (May c) && decide (enc c = [c])
  | _ => false
theorem formC_all : ∀ c : Fin 256, formC (c.val : Int) = true := by decide +kernel
theorem den_shown {c : Int} (hc : IsByte c) (r : List Int) : den true true 34 (shown c ++ r) = (den true true 34 r).map fun x => (c :: x.1, (shown c).length + x.2) := by
  have h1 := formC_all ⟨c.toNat, by have := hc.1; have := hc.2; omega⟩
  have e : ((c.toNat : Nat) : Int) = c := by have := hc.1; omega
  simp only [e] at h1
  unfold formC at h1
  revert h1
  generalize shown c = l
  intro h1
  match l with
  | [] => cases h1
  | [x] =>
    simp only [Bool.and_eq_true, decide_eq_true_eq] at h1
    obtain ⟨⟨⟨⟨rfl, h2⟩, h3⟩, h4⟩, h5⟩ := h1
    rw [List.cons_append, List.nil_append, den_cons, if_neg h2, if_neg (by intro h; exact h.2.elim h3 h4), if_neg h5]
    rfl
  | [a, e] =>
    simp only [Bool.and_eq_true, decide_eq_true_eq] at h1
    obtain ⟨⟨⟨rfl, h2⟩, h3⟩, h4⟩ := h1
    rw [List.cons_append, List.cons_append, List.nil_append, den_cons, if_neg (by decide), if_neg (by intro h; exact h.2.elim (by decide) (by decide)), if_pos rfl, escL, if_neg h2, if_neg h3, if_pos rfl, h4]
    rfl
  | [_, _, _] => cases h1
  | [_, _, _, _] => cases h1
  | [_, _, _, _, _] => cases h1
  | [a, b, x, y, h, g] =>
    simp only [Bool.and_eq_true, decide_eq_true_eq] at h1
    obtain ⟨⟨⟨⟨⟨rfl, rfl⟩, h2⟩, h3⟩, h4⟩, h5⟩ := h1
    have hn : numL 4 (x :: y :: h :: g :: r) = some ([c], 6) := by
      unfold numL
      have ht : (x :: y :: h :: g :: r).take 4 = [x, y, h, g] := rfl
      rw [ht, h3, if_pos ⟨by simp, h2, h4⟩, h5]
    simp only [List.cons_append, List.nil_append]
    rw [den_cons, if_neg (by decide), if_neg (by intro h; exact h.2.elim (by decide) (by decide)), if_pos rfl, escL, if_pos rfl, hn]
    rfl
  | _ :: _ :: _ :: _ :: _ :: _ :: _ :: _ => cases h1
theorem den_quote : ∀ {l : List Int}, (∀ c ∈ l, IsByte c) → ∀ r, den true true 34 (l.flatMap shown ++ 34 :: r) = some (l, (l.flatMap shown).length + 1)
  | [], _, r => by rw [List.flatMap_nil, List.nil_append, den_cons, if_pos rfl]; rfl
  | c :: l, h, r => by
    rw [List.flatMap_cons, List.append_assoc, den_shown (h c (by simp)), den_quote (fun d hd => h d (List.mem_cons_of_mem _ hd)) r, Option.map_some, List.length_append]
    simp only [Option.some.injEq, Prod.mk.injEq, true_and]
    omega
theorem den_iri : ∀ {l : List Int}, (∀ c ∈ l, c ≠ 62 ∧ c ≠ 10 ∧ c ≠ 13 ∧ c ≠ 92) → ∀ r, den true false 62 (l ++ 62 :: r) = some (l, l.length + 1)
  | [], _, r => by rw [List.nil_append, den_cons, if_pos rfl]; rfl
  | c :: l, h, r => by
    have hc := h c (by simp)
    rw [List.cons_append, den_cons, if_neg hc.1, if_neg (by intro e; exact e.2.elim hc.2.1 hc.2.2.1), if_neg hc.2.2.2, den_iri (fun d hd => h d (List.mem_cons_of_mem _ hd)) r]
    simp only [Option.map_some, List.length_cons, Option.some.injEq, Prod.mk.injEq, true_and]
    omega
theorem iri_chars {l : List Int} (h : isIRIB l = true) : ∀ c ∈ l, c ≠ 62 ∧ c ≠ 10 ∧ c ≠ 13 ∧ c ≠ 92 := by
  unfold isIRIB at h
  simp only [Bool.and_eq_true, decide_eq_true_eq] at h
  rw [eachB_eq iriC_high (by omega)] at h
  simp only [Bool.and_eq_true, List.all_eq_true] at h
  intro c hm
  have := h.2.2 c hm
  refine ⟨?_, ?_, ?_, ?_⟩ <;> (rintro rfl; revert this; decide)
theorem blank_chars {l : List Int} (h : isBlankB l = true) : ∀ c ∈ l, letterDigit c = true := by
  unfold isBlankB at h
  simp only [Bool.and_eq_true, decide_eq_true_eq] at h
  rw [eachB_eq letterDigit_high (by omega)] at h
  simp only [Bool.and_eq_true, List.all_eq_true] at h
  exact h.2.2
theorem scan_chars : ∀ (l : List Int) (f p : Bool), scan f p l = true → ∀ c ∈ l, langC c = true
  | [], _, _, _ => by simp
  | c :: l, f, p, h => by
    unfold scan at h
    simp only [Bool.and_eq_true] at h
    intro d hd
    rcases List.mem_cons.1 hd with rfl | hd
    · have := h.1
      unfold stepOK at this
      unfold langC
      split at this
      · rename_i e; rw [e]; rfl
      · simp only [Bool.or_eq_true, Bool.and_eq_true] at this
        rcases this with h1 | h1
        · rw [h1]; rfl
        · rw [h1.2]; simp
    · exact scan_chars l _ _ h.2 d hd
theorem tag_chars {l : List Int} (h : tagL l = true) : ∀ c ∈ l, langC c = true := by
  unfold tagL at h
  simp only [Bool.and_eq_true] at h
  exact scan_chars _ _ _ h.2.2

theorem one_quote {l r : List Int} (h : ∀ c ∈ l, IsByte c) : one (quoteL l ++ r) = .got (symT 3 l) (quoteL l).length := by
  have e : quoteL l ++ r = 34 :: (l.flatMap shown ++ 34 :: r) := by unfold quoteL; simp
  have hq : quotedT (34 :: (l.flatMap shown ++ 34 :: r)) = .got (symT 3 l) (quoteL l).length := by
    unfold quotedT
    rw [if_pos (by simp [List.isPrefixOf]), List.drop_succ_cons, List.drop_zero, den_quote h r]
    simp only [quoteL, List.length_cons, List.length_append, List.length_nil]
    congr 1
    omega
  rw [e]
  unfold one takers
  rw [hq]
  have h1 : markT (34 :: (l.flatMap shown ++ 34 :: r)) = .no := by unfold markT markL; simp [List.isPrefixOf]
  have h2 : spanL letterDigit (34 :: (l.flatMap shown ++ 34 :: r)) = 0 := by unfold spanL; rw [List.takeWhile_cons, if_neg (by decide)]; rfl
  have h3 : nameT (34 :: (l.flatMap shown ++ 34 :: r)) = .no := by unfold nameT; rw [h2, List.drop_zero, if_neg (by unfold colonB; simp [List.isPrefixOf])]
  have h4 : wordT (34 :: (l.flatMap shown ++ 34 :: r)) = .no := by unfold wordT; rw [h2, if_pos rfl]
  have h5 : varT (34 :: (l.flatMap shown ++ 34 :: r)) = .no := by unfold varT; rw [if_neg (by simp [List.isPrefixOf])]
  rw [h1, h3, h4, h5]
  rfl
theorem one_iri {l : List Int} (h : isIRIB l = true) (r : List Int) : one (60 :: (l ++ 62 :: r)) = .got ⟨1, [], 1, l, [], 0⟩ (l.length + 2) := by
  have hq : iriT (60 :: (l ++ 62 :: r)) = .got ⟨1, [], 1, l, [], 0⟩ (l.length + 2) := by
    unfold iriT
    rw [if_pos (by simp [List.isPrefixOf]), List.drop_succ_cons, List.drop_zero, den_iri (iri_chars h) r]
    simp only [h, if_true]
    congr 1
    omega
  unfold one takers
  rw [hq]
  have h1 : markT (60 :: (l ++ 62 :: r)) = .no := by unfold markT markL; simp [List.isPrefixOf]
  have h2 : spanL letterDigit (60 :: (l ++ 62 :: r)) = 0 := by unfold spanL; rw [List.takeWhile_cons, if_neg (by decide)]; rfl
  have h3 : nameT (60 :: (l ++ 62 :: r)) = .no := by unfold nameT; rw [h2, List.drop_zero, if_neg (by unfold colonB; simp [List.isPrefixOf])]
  have h4 : wordT (60 :: (l ++ 62 :: r)) = .no := by unfold wordT; rw [h2, if_pos rfl]
  have h5 : varT (60 :: (l ++ 62 :: r)) = .no := by unfold varT; rw [if_neg (by simp [List.isPrefixOf])]
  have h6 : quotedT (60 :: (l ++ 62 :: r)) = .no := by unfold quotedT; rw [if_neg (by simp [List.isPrefixOf])]
  rw [h1, h3, h4, h5, h6]
  rfl
theorem one_mark (r : List Int) : one (94 :: 94 :: r) = .got (symT 8 [94, 94]) 2 := by
  unfold one takers
  have h1 : markT (94 :: 94 :: r) = .got (symT 8 [94, 94]) 2 := by unfold markT markL; simp [List.isPrefixOf]
  rw [h1]
  rfl

theorem toks_nil (p : Nat) : toks [] p = ([], p) := by rw [toks_eq]; simp [sk]
theorem toks_one {l : List Int} {x : Sym} {n p : Nat} (h0 : sk false l = 0) (hl : l ≠ []) (h : one l = .got x n) : toks l p = ({ x with place := p } :: (toks (l.drop n) (p + n)).1, (toks (l.drop n) (p + n)).2) := by
  rw [toks_eq, h0, List.drop_zero, if_neg hl, h]
  simp only [Nat.add_zero, Nat.zero_add]

/-- A term's symbols. -/
def symsOf (k : Int) (t x : List Int) : List Sym :=
  if k = 1 then [⟨1, [], 1, t, [], 0⟩] else if k = 2 then [⟨2, [], 2, t, [], 0⟩] else if k = 3 then [⟨3, t, 0, [], [], 0⟩]
  else if k = 4 then [⟨3, t, 0, [], [], 0⟩, ⟨4, x, 0, [], [], (quoteL t).length⟩]
  else [⟨3, t, 0, [], [], 0⟩, ⟨8, [94, 94], 0, [], [], (quoteL t).length⟩, ⟨1, [], 1, x, [], (quoteL t).length + 2⟩]
theorem sk_quote (l r : List Int) : sk false (quoteL l ++ r) = 0 := by
  have e : quoteL l ++ r = 34 :: (l.flatMap shown ++ 34 :: r) := by unfold quoteL; simp
  rw [e, skF, if_neg (by decide), if_neg (by decide)]
theorem quote_ne (l r : List Int) : quoteL l ++ r ≠ [] := by unfold quoteL; simp
end Go.Proofs.YtbcoklbfebmpoaaGreatDoor.Lex

/-
  PLAIN MATHEMATICS: which texts are well-formed; where symbols lie.
-/
namespace Go.Proofs.YtbcoklbfebmpoaaGreatDoor
open Utf Term Lex

theorem ascii_encs : ∀ (l : List Int), (∀ c ∈ l, 0 ≤ c ∧ c ≤ 127) → AllMay l ∧ encs l = l
  | [], _ => ⟨by simp [AllMay], rfl⟩
  | c :: l, h => by
    obtain ⟨h1, h2⟩ := ascii_encs l (fun x hx => h x (List.mem_cons_of_mem _ hx))
    have hc := h c List.mem_cons_self
    refine ⟨fun x hx => ?_, ?_⟩
    · rcases List.mem_cons.1 hx with rfl | hx
      · exact ⟨hc.1, by omega, .inl (by omega)⟩
      · exact h1 x hx
    · rw [encs_cons, h2]
      have : enc c = [c] := by unfold enc; simp; omega
      rw [this]; rfl
theorem esc_high {c : Int} (h : 128 ≤ c) : shown c = [c] := by
  have e : esc c = [] := by
    unfold esc
    rw [if_neg (by omega), if_neg (by omega), if_neg (by omega), if_neg (by omega), if_neg (by omega), if_neg (by omega), if_neg (by omega), if_neg (by omega)]
  unfold shown
  rw [e]
  rfl
theorem shown_ascii_all : ∀ c : Fin 128, (shown (c.val : Int)).all (fun x => decide (0 ≤ x ∧ x ≤ 127)) = true := by decide +kernel
theorem shown_ascii {c : Int} (h0 : 0 ≤ c) (h : c ≤ 127) : ∀ x ∈ shown c, 0 ≤ x ∧ x ≤ 127 := by
  have := shown_ascii_all ⟨c.toNat, by omega⟩
  rw [show (((⟨c.toNat, by omega⟩ : Fin 128).val : Nat) : Int) = c by simp; omega] at this
  intro x hx
  have := List.all_eq_true.1 this x hx
  simpa using this
theorem enc_high {r : Int} (h : 127 < r) (hm : May r) : ∀ c ∈ enc r, 128 ≤ c := by
  unfold enc
  obtain ⟨h0, h1, _⟩ := hm
  intro c hc
  split at hc
  · omega
  · split at hc
    · simp only [List.mem_cons, List.not_mem_nil, or_false] at hc
      omega
    · split at hc
      · simp only [List.mem_cons, List.not_mem_nil, or_false] at hc
        omega
      · simp only [List.mem_cons, List.not_mem_nil, or_false] at hc
        omega
theorem flat_same {l : List Int} (h : ∀ c ∈ l, 128 ≤ c) : l.flatMap shown = l := by
  induction l with
  | nil => rfl
  | cons c l ih => rw [List.flatMap_cons, esc_high (h c List.mem_cons_self), ih (fun x hx => h x (List.mem_cons_of_mem _ hx))]; rfl
theorem showns_encs : ∀ (rs : List Int), AllMay rs → ∃ qs, AllMay qs ∧ (encs rs).flatMap shown = encs qs
  | [], _ => ⟨[], by simp [AllMay], rfl⟩
  | r :: rs, h => by
    obtain ⟨qs, h1, h2⟩ := showns_encs rs h.tail
    rw [encs_cons, List.flatMap_append, h2]
    by_cases hr : r ≤ 127
    · have h0 := h.head.1
      have e : enc r = [r] := by unfold enc; simp; omega
      obtain ⟨k1, k2⟩ := ascii_encs (shown r) (shown_ascii h0 hr)
      refine ⟨shown r ++ qs, k1.append h1, ?_⟩
      rw [e, encs_append, k2]
      simp
    · have e := flat_same (enc_high (by omega) h.head)
      refine ⟨[r] ++ qs, ?_, by rw [e]; simp [encs]⟩
      refine AllMay.append ?_ h1
      intro x hx
      rw [List.mem_singleton.1 hx]
      exact h.head
theorem shown_len (c : Int) : (shown c).length ≤ 6 := by
  unfold shown esc
  repeat' split
  all_goals simp
theorem showns_len : ∀ (l : List Int), (l.flatMap shown).length ≤ 6 * l.length
  | [] => by simp
  | c :: l => by
    rw [List.flatMap_cons, List.length_append, List.length_cons]
    have := shown_len c
    have := showns_len l
    omega
theorem showns_valid {l : List Int} (hl : l.length ≤ 9000) (h : valid l = true) : valid (l.flatMap shown) = true := by
  obtain ⟨rs, h1, rfl⟩ := (valid_iff (by omega)).1 h
  have hs := showns_len (encs rs)
  obtain ⟨qs, k1, k2⟩ := showns_encs rs h1
  exact (valid_iff (by omega)).2 ⟨qs, k1, k2⟩
theorem valid_one (c : Int) (h : 0 ≤ c ∧ c ≤ 127) : valid [c] = true := valid_ascii (by simp) (fun x hx => by rw [List.mem_singleton.1 hx]; exact h)
theorem quote_valid {l b : List Int} (hl : l.length ≤ 9000) (hb : b.length ≤ 9000) (h : valid l = true) : valid (quoteL l ++ b) = valid b := by
  have hs := showns_len l
  have e : quoteL l ++ b = [34] ++ (l.flatMap shown ++ ([34] ++ b)) := by unfold quoteL; simp
  rw [e, valid_join (by simp) (by simp only [List.length_append, List.length_singleton]; omega) (valid_one 34 (by decide)), valid_join (by omega) (by simp <;> omega) (showns_valid hl h), valid_join (by simp) (by omega) (valid_one 34 (by decide))]
theorem scan_ascii : ∀ (l : List Int) (f p : Bool), scan f p l = true → ∀ c ∈ l, 0 ≤ c ∧ c ≤ 127
  | [], _, _, _ => by simp
  | c :: l, f, p, h => by
    unfold scan at h
    simp only [Bool.and_eq_true] at h
    intro x hm
    rcases List.mem_cons.1 hm with e | hm
    · subst e
      have := h.1
      unfold stepOK at this
      split at this
      · omega
      · simp only [Bool.or_eq_true, Bool.and_eq_true] at this
        rcases this with h | h
        · unfold small at h; simp at h; omega
        · have h := h.2; unfold digit at h; simp at h; omega
    · exact scan_ascii l _ _ h.2 x hm
theorem tag_valid {x : ByteArray} (h : isTagS x = true) : valid (bs x) = true := by
  have h1 := h
  unfold isTagS at h1
  simp only [Bool.and_eq_true, decide_eq_true_eq] at h1
  rw [isTagS_eq x (by omega)] at h
  unfold tagL at h
  simp only [Bool.and_eq_true] at h
  have hl : (bs x).length ≤ 1000 := by rw [bs_length]; omega
  obtain ⟨k1, k2⟩ := ascii_encs (bs x) (scan_ascii _ _ _ h.2.2)
  exact (valid_iff (by omega)).2 ⟨_, k1, k2.symm⟩
theorem iri_valid {l : List Int} (h : isIRIB l = true) : valid l = true ∧ l.length ≤ 1000 := by
  unfold isIRIB at h
  simp only [Bool.and_eq_true, decide_eq_true_eq] at h
  have hl := h.1.2
  rw [eachB_eq iriC_high (by omega)] at h
  simp only [Bool.and_eq_true, List.all_eq_true] at h
  exact ⟨h.2.1, hl⟩
theorem blank_valid {l : List Int} (h : isBlankB l = true) : valid l = true ∧ l.length ≤ 64 := by
  unfold isBlankB at h
  simp only [Bool.and_eq_true, decide_eq_true_eq] at h
  have hl := h.1.1.2
  rw [eachB_eq letterDigit_high (by omega)] at h
  simp only [Bool.and_eq_true, List.all_eq_true] at h
  exact ⟨h.2.1, hl⟩
/-- A term's text is well-formed, and not long. -/
theorem text_valid {k : Int} {t x : ByteArray} (h : mayS k t x = true) : valid (textL k t x) = true ∧ (textL k t x).length ≤ 30000 := by
  unfold mayS at h
  by_cases h1 : k = 1
  · subst h1
    rw [if_pos rfl, Bool.and_eq_true] at h
    obtain ⟨hv, hl⟩ := iri_valid h.2
    rw [show textL 1 t x = [60] ++ (bs t ++ [62]) from rfl]
    exact ⟨by rw [valid_join (by simp) (by simp <;> omega) (valid_one 60 (by decide)), valid_join (by omega) (by simp) hv]; exact valid_one 62 (by decide), by simp; omega⟩
  rw [if_neg h1] at h
  by_cases h2 : k = 2
  · subst h2
    rw [if_pos rfl, Bool.and_eq_true] at h
    obtain ⟨hv, hl⟩ := blank_valid h.2
    rw [show textL 2 t x = [95] ++ ([58] ++ bs t) from rfl]
    exact ⟨by rw [valid_join (by simp) (by simp <;> omega) (valid_one 95 (by decide)), valid_join (by simp) (by omega) (valid_one 58 (by decide))]; exact hv, by simp; omega⟩
  rw [if_neg h2] at h
  have hq : ∀ {l : List Int}, l.length ≤ 4000 → (quoteL l).length ≤ 24010 := fun {l} hl => by
    have := showns_len l
    unfold quoteL
    simp
    simp at this
    omega
  have hval : isValueB (bs t) = true → valid (bs t) = true ∧ (bs t).length ≤ 4000 := fun h => by
    unfold isValueB at h
    simp only [Bool.and_eq_true, decide_eq_true_eq] at h
    exact ⟨h.2, h.1⟩
  by_cases h3 : k = 3
  · subst h3
    rw [if_pos rfl, Bool.and_eq_true] at h
    obtain ⟨hv, hl⟩ := hval h.2
    rw [show textL 3 t x = quoteL (bs t) from rfl]
    have hz := quote_valid (b := []) (by omega) (by simp) hv
    rw [List.append_nil] at hz
    have := hq hl
    exact ⟨by rw [hz]; exact valid_ascii (by simp) (by simp), by omega⟩
  rw [if_neg h3] at h
  by_cases h4 : k = 4
  · subst h4
    rw [if_pos rfl, Bool.and_eq_true] at h
    obtain ⟨hv, hl⟩ := hval h.2
    have ht := tag_valid h.1
    have htl : (bs x).length ≤ 35 := by
      have := h.1; unfold isTagS at this; simp only [Bool.and_eq_true, decide_eq_true_eq] at this; rw [bs_length]; omega
    rw [show textL 4 t x = quoteL (bs t) ++ ([64] ++ bs x) from rfl]
    have := hq hl
    exact ⟨by rw [quote_valid (by omega) (by simp <;> omega) hv, valid_join (by simp) (by omega) (valid_one 64 (by decide))]; exact ht, by simp; omega⟩
  rw [if_neg h4] at h
  by_cases h5 : k = 5
  · subst h5
    rw [if_pos rfl, Bool.and_eq_true] at h
    obtain ⟨hv, hl⟩ := hval h.2
    have hi : isIRIB (bs x) = true := by have := h.1; unfold isTypeB at this; rw [Bool.and_eq_true] at this; exact this.2
    obtain ⟨hxv, hxl⟩ := iri_valid hi
    rw [show textL 5 t x = quoteL (bs t) ++ ([94] ++ ([94] ++ ([60] ++ (bs x ++ [62])))) from rfl]
    have := hq hl
    exact ⟨by rw [quote_valid (by omega) (by simp <;> omega) hv, valid_join (by simp) (by simp <;> omega) (valid_one 94 (by decide)), valid_join (by simp) (by simp <;> omega) (valid_one 94 (by decide)), valid_join (by simp) (by simp <;> omega) (valid_one 60 (by decide)), valid_join (by omega) (by simp) hxv]; exact valid_one 62 (by decide), by simp; omega⟩
  · rw [if_neg h5] at h
    cases h

theorem wf_of_valid {l : List Int} (h : valid l = true) : wfL l = l.length := by
  unfold valid at h
  rw [beq_iff_eq] at h
  unfold wfL
  omega
/-- Symbols lie within the text. -/
theorem toks_place : ∀ (n : Nat) (l : List Int) (p : Nat), l.length ≤ n → (∀ x ∈ (toks l p).1, x.place ≤ p + l.length) ∧ (toks l p).1.length ≤ l.length ∧ (toks l p).2 ≤ p + l.length := by
  intro n
  induction n with
  | zero =>
    intro l p hn
    obtain rfl : l = [] := List.eq_nil_of_length_eq_zero (by omega)
    rw [toks_eq]
    simp [sk]
  | succ n ih =>
    intro l p hn
    rw [toks_eq l p]
    have hs := sk_le false l
    split
    · simp; omega
    · cases ho : one (l.drop (sk false l)) with
      | no => simp; omega
      | bad => simp; omega
      | got x m =>
        have hp := one_pos ho
        rw [List.length_drop] at hp
        have := ih (l.drop (sk false l + m)) (p + sk false l + m) (by rw [List.length_drop]; omega)
        rw [List.length_drop] at this
        obtain ⟨i1, i2, i3⟩ := this
        simp only
        refine ⟨fun y hy => ?_, ?_, by omega⟩
        · rcases List.mem_cons.1 hy with rfl | hy
          · show p + sk false l ≤ _; omega
          · have := i1 y hy; omega
        · rw [List.length_cons]; omega
end Go.Proofs.YtbcoklbfebmpoaaGreatDoor

/-
  SLICES OF SYMBOLS: their cells, '!=' of two, append of a whole slice. CONTRACT OF same.
-/
namespace Go.Proofs.YtbcoklbfebmpoaaGreatDoor
open Go.RowKit
open Utf Term Lex
set_option linter.unusedVariables false
set_option linter.unusedSimpArgs false

theorem flatS_cons (x : Sym) (l : List Sym) : flatS (x :: l) = (symA x).toList ++ flatS l := by simp [flatS]
theorem flatS_append (a b : List Sym) : flatS (a ++ b) = flatS a ++ flatS b := by simp [flatS]
theorem symA_length (x : Sym) : (symA x).toList.length = 6 := rfl
theorem flatS_get : ∀ (L : List Sym) (i c : Nat) (x : Sym), L[i]? = some x → c < 6 → (flatS L)[i * 6 + c]? = (symA x).toList[c]?
  | [], _, _, _, h, _ => by simp at h
  | y :: L, 0, c, x, h, hc => by
    rw [List.getElem?_cons_zero, Option.some.injEq] at h
    subst h
    rw [flatS_cons, List.getElem?_append_left (by rw [symA_length]; omega)]
    simp
  | y :: L, i + 1, c, x, h, hc => by
    rw [List.getElem?_cons_succ] at h
    rw [flatS_cons, List.getElem?_append_right (by rw [symA_length]; omega), symA_length, show (i + 1) * 6 + c - 6 = i * 6 + c by omega]
    exact flatS_get L i c x h hc
/-- A symbol's cells at a place. -/
structure SixS (W : World) (g o : Nat) (x : Sym) : Prop where
  c0 : W.cell? ⟨g, o, none⟩ = some (.int .i64 x.kind)
  c1 : W.cell? ⟨g, o + 1, none⟩ = some (.string (strOfNums x.text))
  c2 : W.cell? ⟨g, o + 2, none⟩ = some (.int .i64 x.tk)
  c3 : W.cell? ⟨g, o + 3, none⟩ = some (.string (strOfNums x.tt))
  c4 : W.cell? ⟨g, o + 4, none⟩ = some (.string (strOfNums x.te))
  c5 : W.cell? ⟨g, o + 5, none⟩ = some (.int .i64 x.place)
theorem SymRow.six {W : World} {g : Nat} {L : List Sym} (h : SymRow W g L) {i : Nat} {x : Sym} (hx : L[i]? = some x) : SixS W g (i * 6) x := by
  have H : ∀ c, c < 6 → W.cell? ⟨g, i * 6 + c, none⟩ = some ((symA x).toList.getD c undef) := fun c hc => h _ _ (by rw [flatS_get L i c x hx hc, List.getD_eq_getElem?_getD, List.getElem?_eq_getElem (by rw [symA_length]; omega)]; rfl)
  exact ⟨H 0 (by omega), H 1 (by omega), H 2 (by omega), H 3 (by omega), H 4 (by omega), H 5 (by omega)⟩

/-- A slice of symbols. -/
def SliceS (W : World) (v : Value) (L : List Sym) : Prop :=
  (v = .slice none 0 0 ∧ L = []) ∨ ∃ g cap, v = .slice (some ⟨g, 0, none⟩) L.length cap ∧ L.length ≤ cap ∧ cap ≤ maxLen ∧ SymRow W g L
theorem SliceS.below {W W' : World} {v : Value} {L : List Sym} (h : SliceS W v L) (k : Below W.heap.size W W') : SliceS W' v L := by
  rcases h with h | ⟨b, cap, h1, h2, h3, h4⟩
  · exact .inl h
  · exact .inr ⟨b, cap, h1, h2, h3, h4.below k⟩
theorem slice_of_owns {w : World} {B : Nat} {v : Value} {L : List Sym} (h : w.ownsRow B 64 6 v L.length (flatS L)) : SliceS w v L := by
  have h' := h
  rcases h.2 with ⟨rfl, h0⟩ | ⟨g, cap, cur, rfl, hb, hg, hnc, hcm, hcs, htake⟩
  · exact .inl ⟨rfl, List.length_eq_zero_iff.1 h0⟩
  · refine .inr ⟨g, cap, rfl, hnc, hcm, fun j u hu => ?_⟩
    have := h'.cells (g := g) rfl j u hu
    have hadd : (⟨g, 0, none⟩ : Addr).add j = ⟨g, j, none⟩ := by unfold Addr.add; split <;> simp_all
    rwa [hadd] at this

section
variable {w : World} {ops : Array Oper} {rest : List Oper} {o : Oper} {a : Act} {Q : Exit → Act → World → Prop}
end
end Go.Proofs.YtbcoklbfebmpoaaGreatDoor

/-
  A ROW OF SYMBOLS OF THE CALL's OWN: a place in it is changed.
-/
namespace Go.Proofs.YtbcoklbfebmpoaaGreatDoor
open Go.RowKit
open Utf Term Lex
set_option linter.unusedVariables false
set_option linter.unusedSimpArgs false

/-- A block that begins with some symbols' cells. -/
def YRow (W : World) (g : Nat) (L : List Sym) : Prop := ∃ cur, BlockAt W g cur 64 ∧ ∀ (j : Nat) (u : Value), (flatS L)[j]? = some u → cur[j]? = some u
theorem YRow.row {W : World} {g : Nat} {L : List Sym} (h : YRow W g L) : SymRow W g L := by
  obtain ⟨cur, h1, h2⟩ := h
  intro j u hu
  exact h1.cell (h2 j u hu)
theorem YRow.free {W : World} {g : Nat} {L : List Sym} (h : YRow W g L) (j : Nat) : W.frozen? ⟨g, j, none⟩ = false := by
  obtain ⟨cur, h1, h2⟩ := h
  exact h1.free j
theorem YRow.below {w u : World} {g : Nat} {L : List Sym} (h : YRow w g L) (k : Below w.heap.size w u) : YRow u g L := by
  obtain ⟨cur, h1, h2⟩ := h
  exact ⟨cur, h1.kept k, h2⟩
theorem flatS_set : ∀ (L : List Sym) (i j : Nat) (x : Sym) (d : Nat), L[i]? = some x → (flatS (L.set i (shiftS d x)))[j]? = if j = i * 6 + 5 then some (.int .i64 ((x.place : Int) + d)) else (flatS L)[j]?
  | [], _, _, _, _, h => by simp at h
  | y :: L, 0, j, x, d, h => by
    rw [List.getElem?_cons_zero, Option.some.injEq] at h
    subst h
    rw [List.set_cons_zero, flatS_cons, flatS_cons]
    by_cases hj : j < 6
    · rw [List.getElem?_append_left (by rw [symA_length]; exact hj), List.getElem?_append_left (by rw [symA_length]; exact hj)]
      match j, hj with
      | 0, _ => rfl
      | 1, _ => rfl
      | 2, _ => rfl
      | 3, _ => rfl
      | 4, _ => rfl
      | 5, _ => simp [symA, shiftS]
    · rw [if_neg (by omega), List.getElem?_append_right (by rw [symA_length]; omega), List.getElem?_append_right (by rw [symA_length]; omega), symA_length, symA_length]
  | y :: L, i + 1, j, x, d, h => by
    rw [List.getElem?_cons_succ] at h
    rw [List.set_cons_succ, flatS_cons, flatS_cons]
    by_cases hj : j < 6
    · rw [if_neg (by omega), List.getElem?_append_left (by rw [symA_length]; exact hj), List.getElem?_append_left (by rw [symA_length]; exact hj)]
    · rw [List.getElem?_append_right (by rw [symA_length]; omega), List.getElem?_append_right (by rw [symA_length]; omega), symA_length, flatS_set L i (j - 6) x d h]
      by_cases e : j = (i + 1) * 6 + 5
      · rw [if_pos e, if_pos (by omega)]
      · rw [if_neg e, if_neg (by omega)]
theorem YRow.place {W : World} {g : Nat} {L : List Sym} (h : YRow W g L) {i : Nat} {x : Sym} (hx : L[i]? = some x) (d : Nat) : YRow (W.setCell ⟨g, i * 6 + 5, none⟩ (.int .i64 ((x.place : Int) + d))) g (L.set i (shiftS d x)) := by
  obtain ⟨cur, h1, h2⟩ := h
  refine ⟨_, h1.set (i * 6 + 5) _, fun j u hu => ?_⟩
  rw [flatS_set L i j x d hx] at hu
  rw [Array.getElem?_setIfInBounds]
  have hin : i * 6 + 5 < cur.size := by
    have e : (flatS L)[i * 6 + 5]? = some (.int .i64 x.place) := by rw [flatS_get L i 5 x hx (by omega)]; rfl
    exact (Array.getElem?_eq_some_iff.1 (h2 _ _ e)).1
  by_cases e : j = i * 6 + 5
  · rw [if_pos e] at hu
    subst e
    rw [if_pos rfl, if_pos hin]
    exact hu
  · rw [if_neg e] at hu
    rw [if_neg (fun h => e h.symm)]
    exact h2 j u hu
/-- The first k moved. -/
def moved (d k : Nat) (L : List Sym) : List Sym := (L.take k).map (shiftS d) ++ L.drop k
end Go.Proofs.YtbcoklbfebmpoaaGreatDoor

/-
  WHAT LexMeans CALLS: All of a text that is one, or is none; All and Read of a term's own text.
-/
namespace Go.Proofs.YtbcoklbfebmpoaaGreatDoor
open Go.RowKit
open Utf Term Lex
set_option linter.unusedVariables false
set_option linter.unusedSimpArgs false

theorem syms_few (b : ByteArray) : (allL (bs b)).1.length ≤ b.size := by
  have := (toks_place _ (bs b) 0 (Nat.le_refl _)).2.1
  rw [bs_length] at this
  exact this
end Go.Proofs.YtbcoklbfebmpoaaGreatDoor

/-
  PLAIN MATHEMATICS: which term symbols begin with.
-/

namespace Go.Proofs.YtbcoklbfebmpoaaGreatDoor
open Go.RowKit
open Utf Term Lex

abbrev S (l : List Int) : ByteArray := strOfNums l
abbrev noneB : ByteArray := ⟨#[]⟩
def typeMarkL : List Int := [94, 94]

/-- A symbol as the reader of symbols hands it out, of a text of at most N bytes. -/
structure GoodS (N : Nat) (x : Sym) : Prop where
  bt : ∀ c ∈ x.text, IsByte c
  btt : ∀ c ∈ x.tt, IsByte c
  bte : ∀ c ∈ x.te, IsByte c
  lt : x.text.length ≤ N
  ltt : x.tt.length ≤ N
  lte : x.te.length ≤ N
  pl : x.place ≤ N
  iri : x.kind = 1 → x.tk = 1 ∧ x.te = [] ∧ mayS 1 (S x.tt) noneB = true
  blank : x.kind = 2 → x.tk = 2 ∧ x.te = [] ∧ mayS 2 (S x.tt) noneB = true
  lang : x.kind = 4 → isTagS (S x.text) = true
  name : x.kind = 7 → (58 : Int) ∈ x.text

/-- What stands in front of the first ':', and behind it. -/
def wordN (l : List Int) : List Int := l.takeWhile (fun c => c != 58)
def localN (l : List Int) : List Int := (l.dropWhile (fun c => c != 58)).drop 1

/-- The IRI or the Blank that a symbol is. -/
def namedS (P : ByteArray → Option ByteArray) (x : Sym) : Option TermD :=
  if x.kind = 1 then some (1, S x.tt, noneB)
  else if x.kind = 2 then some (2, S x.tt, noneB)
  else if x.kind = 7 then
    match P (S (wordN x.text)) with
    | none => none
    | some b => if mayS 1 (b ++ S (localN x.text)) noneB = true then some (1, b ++ S (localN x.text), noneB) else none
  else none

theorem index_58 : ∀ u : List UInt8, (58 : UInt8) ∈ u → Lib.index u [58] = ((u.takeWhile (fun c => c != 58)).length : Int)
  | [], h => by cases h
  | b :: u, h => by
    rw [Lib.index_one, Lib.indexByte]
    by_cases hb : b = 58
    · subst hb
      rw [if_pos (by decide), List.takeWhile_cons, if_neg (by decide)]
      rfl
    · have hm : (58 : UInt8) ∈ u := by
        rcases List.mem_cons.1 h with e | e
        · exact absurd e.symm hb
        · exact e
      have ih := index_58 u hm
      rw [Lib.index_one] at ih
      rw [if_neg (by simpa using hb), ih, if_neg (by simp), List.takeWhile_cons, if_pos (by simpa using hb), List.length_cons]
      omega
theorem cut_58 (u : List UInt8) (h : (58 : UInt8) ∈ u) : Lib.cut u [58] = (u.takeWhile (fun c => c != 58), (u.dropWhile (fun c => c != 58)).drop 1, true) := by
  have hi := index_58 u h
  unfold Lib.cut
  rw [hi, if_pos (by omega), Int.toNat_natCast]
  have e : u.takeWhile (fun c => c != 58) ++ u.dropWhile (fun c => c != 58) = u := List.takeWhile_append_dropWhile
  have e1 : u.take (u.takeWhile (fun c => c != 58)).length = u.takeWhile (fun c => c != 58) := by
    conv => lhs; arg 2; rw [← e]
    exact List.take_left
  have e2 : u.drop ((u.takeWhile (fun c => c != 58)).length + [(58 : UInt8)].length) = (u.dropWhile (fun c => c != 58)).drop 1 := by
    conv => lhs; arg 2; rw [← e]
    rw [← List.drop_drop, List.drop_left]
    rfl
  rw [e1, e2]
theorem to58 (c : UInt8) : (((c.toNat : Int)) != 58) = (c != 58) := by
  rw [Bool.eq_iff_iff, bne_iff_ne, bne_iff_ne]
  refine not_congr ⟨fun h => ?_, fun h => by rw [h]; rfl⟩
  apply UInt8.toNat.inj
  show c.toNat = 58
  omega
theorem takeW_map (f : UInt8 → Int) (p : Int → Bool) (q : UInt8 → Bool) (h : ∀ c, p (f c) = q c) : ∀ u : List UInt8, (u.map f).takeWhile p = (u.takeWhile q).map f
  | [] => rfl
  | b :: u => by
    rw [List.map_cons, List.takeWhile_cons, List.takeWhile_cons, h b]
    split
    · rw [List.map_cons, takeW_map f p q h u]
    · rfl
theorem dropW_map (f : UInt8 → Int) (p : Int → Bool) (q : UInt8 → Bool) (h : ∀ c, p (f c) = q c) : ∀ u : List UInt8, (u.map f).dropWhile p = (u.dropWhile q).map f
  | [] => rfl
  | b :: u => by
    rw [List.map_cons, List.dropWhile_cons, List.dropWhile_cons, h b]
    split
    · rw [dropW_map f p q h u]
    · rfl
/-- strings.Cut at ':' . -/
theorem cutS (s : ByteArray) (h : (58 : Int) ∈ bs s) : (⟨(Lib.cut s.data.toList [58]).1.toArray⟩ : ByteArray) = S (wordN (bs s)) ∧ (⟨(Lib.cut s.data.toList [58]).2.1.toArray⟩ : ByteArray) = S (localN (bs s)) ∧ (Lib.cut s.data.toList [58]).2.2 = true := by
  have hm : (58 : UInt8) ∈ s.data.toList := by
    unfold bs at h
    obtain ⟨c, hc, e⟩ := List.mem_map.1 h
    have : c = 58 := UInt8.toNat.inj (by show c.toNat = 58; omega)
    rwa [this] at hc
  rw [cut_58 _ hm]
  refine ⟨?_, ?_, rfl⟩
  · refine (str_of ?_).symm
    unfold bs wordN
    rw [takeW_map _ _ _ to58]
  · refine (str_of ?_).symm
    unfold bs localN
    rw [dropW_map _ _ _ to58, List.map_drop]
theorem localN_len (l : List Int) : (localN l).length ≤ l.length := by
  unfold localN
  rw [List.length_drop]
  have := List.Sublist.length_le (List.dropWhile_sublist (l := l) (fun c => c != 58))
  omega

def xsdS : ByteArray := ⟨#[104, 116, 116, 112, 58, 47, 47, 119, 119, 119, 46, 119, 51, 46, 111, 114, 103, 47, 50, 48, 48, 49, 47, 88, 77, 76, 83, 99, 104, 101, 109, 97, 35, 115, 116, 114, 105, 110, 103]⟩

def okT (t : TermD) : Option TermD := if mayD t = true then some t else none
/-- A text and a type. -/
def typedR (tt : ByteArray) (r : Option TermD) : Option TermD :=
  match r with
  | none => none
  | some u => if u.1 = 1 then (if u.2.1 = xsdS then okT (3, tt, noneB) else okT (5, tt, u.2.1)) else none
/-- The term that all of some symbols are. -/
def wholeS (P : ByteArray → Option ByteArray) : List Sym → Option TermD
  | [x] => if x.kind = 3 then okT (3, S x.text, noneB) else namedS P x
  | [x, y] => if x.kind = 3 ∧ y.kind = 4 then okT (4, S x.text, S y.text) else none
  | [x, y, z] =>
    if x.kind = 3 ∧ y.kind = 8 ∧ y.text = typeMarkL then typedR (S x.text) (namedS P z) else none
  | _ => none
def tryS (P : ByteArray → Option ByteArray) (L : List Sym) (n : Nat) : Option (TermD × Nat) := if n ≤ L.length then (wholeS P (L.take n)).map (fun t => (t, n)) else none
/-- The longest term that symbols begin with. -/
def readS (P : ByteArray → Option ByteArray) (L : List Sym) : Option (TermD × Nat) :=
  match tryS P L 3 with
  | some r => some r
  | none => match tryS P L 2 with
    | some r => some r
    | none => tryS P L 1
theorem readS_pos {P : ByteArray → Option ByteArray} {L : List Sym} {t : TermD} {n : Nat} (h : readS P L = some (t, n)) : 1 ≤ n ∧ n ≤ 3 ∧ n ≤ L.length := by
  have ht : ∀ k, tryS P L k = some (t, n) → n = k ∧ k ≤ L.length := by
    intro k hk
    unfold tryS at hk
    split at hk
    · rename_i hle
      cases hw : wholeS P (L.take k) with
      | none => rw [hw] at hk; cases hk
      | some u =>
        rw [hw] at hk
        simp only [Option.map_some, Option.some.injEq, Prod.mk.injEq] at hk
        exact ⟨hk.2.symm, hle⟩
    · cases hk
  unfold readS at h
  cases h3 : tryS P L 3 with
  | some r => rw [h3] at h; simp only [Option.some.injEq] at h; subst h; have := ht 3 h3; omega
  | none =>
    rw [h3] at h
    simp only at h
    cases h2 : tryS P L 2 with
    | some r => rw [h2] at h; simp only [Option.some.injEq] at h; subst h; have := ht 2 h2; omega
    | none => rw [h2] at h; simp only at h; have := ht 1 h; omega
end Go.Proofs.YtbcoklbfebmpoaaGreatDoor

/-
  PLAIN MATHEMATICS: the symbols of a text are good ones.
-/

namespace Go.Proofs.YtbcoklbfebmpoaaGreatDoor
open Go.RowKit
open Utf Term Lex

def ByteL (l : List Int) : Prop := ∀ c ∈ l, IsByte c
theorem ByteL.drop {l : List Int} (h : ByteL l) (n : Nat) : ByteL (l.drop n) := fun c hc => h c (List.mem_of_mem_drop hc)
theorem ByteL.take {l : List Int} (h : ByteL l) (n : Nat) : ByteL (l.take n) := fun c hc => h c (List.mem_of_mem_take hc)
theorem esc_good {all : Bool} {l b : List Int} {k : Nat} (h : escL all l = some (b, k)) : ByteL b ∧ b.length ≤ k := by
  have hn : ∀ q r, numL q r = some (b, k) → ByteL b ∧ b.length ≤ k := by
    intro q r hq
    unfold numL at hq
    split at hq
    · rename_i h1
      simp only [Option.some.injEq, Prod.mk.injEq] at hq
      obtain ⟨rfl, rfl⟩ := hq
      have hlen := enc_len (hexV (r.take q))
      refine ⟨enc_bytes h1.2.2, ?_⟩
      by_cases hq0 : q = 0
      · subst hq0
        have : hexV (r.take 0) = 0 := by simp [hexV]
        rw [this]
        decide
      · by_cases hq1 : q = 1
        · subst hq1
          have hr : hexV (r.take 1) ≤ 15 := by
            unfold hexV
            cases r with
            | nil => decide
            | cons c r =>
              simp only [List.take_succ_cons, List.take_zero, List.foldl_cons, List.foldl_nil]
              unfold hexD
              repeat' split
              all_goals omega
          have : enc (hexV (r.take 1)) = [hexV (r.take 1)] := by unfold enc; rw [if_pos (by omega)]
          rw [this]
          simp
        · omega
    · cases hq
  cases l with
  | nil => cases h
  | cons c r =>
    rw [escL] at h
    split at h
    · exact hn _ _ h
    · split at h
      · exact hn _ _ h
      · split at h
        · cases hs : shortE c with
          | none => rw [hs] at h; cases h
          | some y =>
            rw [hs] at h
            simp only [Option.map_some, Option.some.injEq, Prod.mk.injEq] at h
            obtain ⟨rfl, rfl⟩ := h
            refine ⟨?_, by simp⟩
            intro d hd
            rw [List.mem_singleton.1 hd]
            unfold shortE at hs
            repeat' (split at hs)
            all_goals first | (cases hs; exact ⟨by decide, by decide⟩) | cases hs
        · cases h
theorem den_good {nl all : Bool} {stop : Int} : ∀ {n : Nat} {l t : List Int} {k : Nat}, l.length ≤ n → ByteL l → den nl all stop l = some (t, k) → ByteL t ∧ t.length ≤ k
  | n, [], t, k, _, _, h => by cases h
  | 0, c :: l, t, k, hn, _, h => by simp at hn
  | n + 1, c :: l, t, k, hn, hb, h => by
    simp only [List.length_cons] at hn
    have hbl : ByteL l := fun d hd => hb d (List.mem_cons_of_mem _ hd)
    rw [den_cons] at h
    split at h
    · simp only [Option.some.injEq, Prod.mk.injEq] at h
      obtain ⟨rfl, rfl⟩ := h
      exact ⟨by simp [ByteL], by simp⟩
    · split at h
      · cases h
      · split at h
        · cases he : escL all l with
          | none => rw [he] at h; cases h
          | some x =>
            obtain ⟨b, k'⟩ := x
            rw [he] at h
            have hp := esc_good he
            simp only at h
            cases hd : den nl all stop (l.drop (k' - 1)) with
            | none => rw [hd] at h; cases h
            | some y =>
              obtain ⟨t', k2⟩ := y
              rw [hd] at h
              simp only [Option.map_some, Option.some.injEq, Prod.mk.injEq] at h
              obtain ⟨rfl, rfl⟩ := h
              have := den_good (n := n) (by rw [List.length_drop]; omega) (hbl.drop _) hd
              refine ⟨fun c hc => ?_, by rw [List.length_append]; omega⟩
              rcases List.mem_append.1 hc with hc | hc
              · exact hp.1 c hc
              · exact this.1 c hc
        · cases hd : den nl all stop l with
          | none => rw [hd] at h; cases h
          | some y =>
            obtain ⟨t', k2⟩ := y
            rw [hd] at h
            simp only [Option.map_some, Option.some.injEq, Prod.mk.injEq] at h
            obtain ⟨rfl, rfl⟩ := h
            have := den_good (n := n) (by omega) hbl hd
            refine ⟨fun d hd => ?_, by rw [List.length_cons]; omega⟩
            rcases List.mem_cons.1 hd with rfl | hd
            · exact hb _ List.mem_cons_self
            · exact this.1 d hd

theorem S_bs {l : List Int} (h : ByteL l) : bs (S l) = l := bs_strOfNums h
theorem iri_may {t : List Int} (hb : ByteL t) (h : isIRIB t = true) : mayS 1 (S t) noneB = true := by
  rw [mayS_iri, S_bs hb]
  exact h
theorem blank_may {t : List Int} (hb : ByteL t) (h : isBlankB t = true) : mayS 2 (S t) noneB = true := by
  rw [mayS_blank, S_bs hb]
  exact h

/-- Nothing of a symbol is bad. -/
theorem one_good {l : List Int} (hb : ByteL l) {x : Sym} {n : Nat} (h : one l = .got x n) : x.place = 0 ∧ GoodS l.length x := by
  have hm := firstT_mem h
  unfold takers at hm
  simp only [List.mem_cons, List.not_mem_nil, or_false] at hm
  have base : ∀ (k : Nat) (t : List Int), ByteL t → t.length ≤ l.length → k ≠ 1 → k ≠ 2 → (k = 4 → isTagS (S t) = true) → (k = 7 → (58 : Int) ∈ t) → GoodS l.length (symT k t) := fun k t h1 h2 k1 k2 h4 h7 =>
    ⟨h1, by simp [symT], by simp [symT], h2, by simp [symT], by simp [symT], by simp [symT], fun e => absurd e k1, fun e => absurd e k2, h4, h7⟩
  rcases hm with hm | hm | hm | hm | hm | hm | hm | hm
  · have hm := hm.symm
    unfold markT at hm
    cases hf : markL.find? (fun m => m.isPrefixOf l) with
    | none => rw [hf] at hm; cases hm
    | some m =>
      rw [hf] at hm
      simp only [Took.got.injEq] at hm
      obtain ⟨rfl, rfl⟩ := hm
      have h0 := List.find?_some hf
      have h1 := prefix_len h0
      have h2 := List.mem_of_find?_eq_some hf
      have h3 : ∀ m ∈ markL, ByteL m := by unfold ByteL IsByte; decide
      exact ⟨rfl, base 8 m (h3 m h2) h1 (by decide) (by decide) (fun e => absurd e (by decide)) (fun e => absurd e (by decide))⟩
  · have hm := hm.symm
    unfold nameT at hm
    split at hm
    · rename_i hc
      split at hm
      · cases hm
      · simp only [Took.got.injEq] at hm
        obtain ⟨rfl, rfl⟩ := hm
        refine ⟨rfl, base 7 _ (hb.take _) (by rw [List.length_take]; omega) (by decide) (by decide) (fun e => absurd e (by decide)) (fun _ => ?_)⟩
        unfold colonB at hc
        rw [Bool.and_eq_true] at hc
        obtain ⟨r, hr⟩ := List.isPrefixOf_iff_prefix.1 hc.1
        have hg : l[spanL letterDigit l]? = some 58 := by
          have : (l.drop (spanL letterDigit l))[0]? = some 58 := by rw [← hr]; rfl
          rwa [List.getElem?_drop, Nat.add_zero] at this
        refine List.mem_of_getElem? (i := spanL letterDigit l) ?_
        rw [List.getElem?_take, if_pos (by omega)]
        exact hg
    · cases hm
  · have hm := hm.symm
    unfold wordT at hm
    split at hm
    · cases hm
    · split at hm
      · simp only [Took.got.injEq] at hm
        obtain ⟨rfl, rfl⟩ := hm
        exact ⟨rfl, base 6 _ (hb.take _) (by rw [List.length_take]; omega) (by decide) (by decide) (fun e => absurd e (by decide)) (fun e => absurd e (by decide))⟩
      · cases hm
  · have hm := hm.symm
    unfold varT at hm
    split at hm
    · split at hm
      · simp only [Took.got.injEq] at hm
        obtain ⟨rfl, rfl⟩ := hm
        exact ⟨rfl, base 5 _ ((hb.drop 1).take _) (by rw [List.length_take, List.length_drop]; omega) (by decide) (by decide) (fun e => absurd e (by decide)) (fun e => absurd e (by decide))⟩
      · cases hm
    · cases hm
  · have hm := hm.symm
    unfold quotedT at hm
    split at hm
    · split at hm
      · cases hm
      · rename_i t k hd
        simp only [Took.got.injEq] at hm
        obtain ⟨rfl, rfl⟩ := hm
        have h1 := den_good (Nat.le_refl _) (hb.drop 1) hd
        have h2 := den_pos (Nat.le_refl _) hd
        rw [List.length_drop] at h2
        exact ⟨rfl, base 3 t h1.1 (by omega) (by decide) (by decide) (fun e => absurd e (by decide)) (fun e => absurd e (by decide))⟩
    · cases hm
  · have hm := hm.symm
    unfold iriT at hm
    split at hm
    · split at hm
      · cases hm
      · rename_i t k hd
        split at hm
        · rename_i hi
          simp only [Took.got.injEq] at hm
          obtain ⟨rfl, rfl⟩ := hm
          have h1 := den_good (Nat.le_refl _) (hb.drop 1) hd
          have h2 := den_pos (Nat.le_refl _) hd
          rw [List.length_drop] at h2
          exact ⟨rfl, by simp, h1.1, by simp, by simp, by show t.length ≤ _; omega, by simp, by simp, fun _ => ⟨rfl, rfl, iri_may h1.1 hi⟩, fun e => absurd e (by show (1 : Nat) ≠ 2; decide), fun e => absurd e (by show (1 : Nat) ≠ 4; decide), fun e => absurd e (by show (1 : Nat) ≠ 7; decide)⟩
        · cases hm
    · cases hm
  · have hm := hm.symm
    unfold blankT at hm
    split at hm
    · split at hm
      · rename_i hi
        simp only [Took.got.injEq] at hm
        obtain ⟨rfl, rfl⟩ := hm
        have h1 := (hb.drop 2).take (spanL letterDigit (l.drop 2))
        exact ⟨rfl, by simp, h1, by simp, by simp, by show ((l.drop 2).take _).length ≤ _; rw [List.length_take, List.length_drop]; omega, by simp, by simp, fun e => absurd e (by show (2 : Nat) ≠ 1; decide), fun _ => ⟨rfl, rfl, blank_may h1 hi⟩, fun e => absurd e (by show (2 : Nat) ≠ 4; decide), fun e => absurd e (by show (2 : Nat) ≠ 7; decide)⟩
      · cases hm
    · cases hm
  · have hm := hm.symm
    unfold langT at hm
    split at hm
    · split at hm
      · rename_i hi
        simp only [Took.got.injEq] at hm
        obtain ⟨rfl, rfl⟩ := hm
        have h1 := (hb.drop 1).take (spanL langC (l.drop 1))
        refine ⟨rfl, base 4 _ h1 (by rw [List.length_take, List.length_drop]; omega) (by decide) (by decide) (fun _ => ?_) (fun e => absurd e (by decide))⟩
        rw [tagS_any, S_bs h1]
        exact hi
      · cases hm
    · cases hm
theorem toks_good : ∀ (n : Nat) (l : List Int) (p N : Nat), l.length ≤ n → ByteL l → p + l.length ≤ N → ∀ x ∈ (toks l p).1, GoodS N x := by
  intro n
  induction n with
  | zero =>
    intro l p N hn _ _
    obtain rfl : l = [] := List.eq_nil_of_length_eq_zero (by omega)
    rw [toks_eq]
    simp [sk]
  | succ n ih =>
    intro l p N hn hb hN
    rw [toks_eq l p]
    have hs := sk_le false l
    split
    · simp
    · cases ho : one (l.drop (sk false l)) with
      | no => simp
      | bad => simp
      | got x m =>
        have hp := one_pos ho
        rw [List.length_drop] at hp
        simp only
        intro y hy
        rcases List.mem_cons.1 hy with rfl | hy
        · obtain ⟨_, g⟩ := one_good (hb.drop _) ho
          have hl : (l.drop (sk false l)).length ≤ N := by rw [List.length_drop]; omega
          exact ⟨g.bt, g.btt, g.bte, Nat.le_trans g.lt hl, Nat.le_trans g.ltt hl, Nat.le_trans g.lte hl, by show p + sk false l ≤ N; omega, g.iri, g.blank, g.lang, g.name⟩
        · exact ih (l.drop (sk false l + m)) (p + sk false l + m) N (by rw [List.length_drop]; omega) (hb.drop _) (by rw [List.length_drop]; omega) y hy
theorem all_good (s : ByteArray) : ∀ x ∈ (allL (bs s)).1, GoodS s.size x := toks_good _ _ 0 _ (Nat.le_refl _) (bs_byte s) (by rw [bs_length]; omega)
end Go.Proofs.YtbcoklbfebmpoaaGreatDoor

/-
  PLAIN MATHEMATICS OF LAYER 6: rules as texts.
-/

namespace Go.Proofs.YtbcoklbfebmpoaaGreatDoor
open Go.RowKit
open Utf Term Lex
set_option linter.unusedVariables false

/-- Something, and the symbols that are left; or the symbols from the wrong one on. -/
inductive Tk (α : Type) where
  | no (l : List Sym) | yes (a : α) (l : List Sym)
def Tk.bind {α β : Type} : Tk α → (α → List Sym → Tk β) → Tk β
  | .no l, _ => .no l
  | .yes a l, f => f a l
def isMk (m : List Int) (x : Sym) : Bool := decide (x.kind = 8) && decide (x.text = m)
def isWd (m : List Int) (x : Sym) : Bool := wordB x.kind x.text m
def takesS (p : Sym → Bool) : List Sym → Option (List Sym)
  | [] => none
  | x :: r => if p x = true then some r else none
def needS (p : Sym → Bool) (L : List Sym) : Tk Unit :=
  match takesS p L with
  | some r => .yes () r
  | none => .no L
def termS (P : ByteArray → Option ByteArray) (L : List Sym) : Tk SlotD :=
  match readS P L with
  | none => .no L
  | some (t, n) => .yes (noneB, t) (L.drop n)
def slotS (P : ByteArray → Option ByteArray) : List Sym → Tk SlotD
  | [] => .no []
  | x :: r => if x.kind = 5 then (if nameB (S x.text) = true then .yes (S x.text, zTe) r else .no (x :: r)) else termS P (x :: r)
def openM : List Int := [40]
def closeM : List Int := [41]
def arrowM : List Int := [58, 45]
def commaM : List Int := [44]
def endM : List Int := [46]
def sameM : List Int := [61]
def unlikeM : List Int := [33, 61]
def notW : List Int := [110, 111, 116]
def prefixW : List Int := [112, 114, 101, 102, 105, 120]
/-- Three slots and the mark behind them. -/
def slots3 (P : ByteArray → Option ByteArray) (L : List Sym) : Tk PatD :=
  (slotS P L).bind fun a L1 => (slotS P L1).bind fun b L2 => (slotS P L2).bind fun c L3 => .yes (a, b, c) L3
def patS (P : ByteArray → Option ByteArray) (L : List Sym) : Tk PatD :=
  (needS (isMk openM) L).bind fun _ L1 => (slots3 P L1).bind fun p L2 => (needS (isMk closeM) L2).bind fun _ L3 => .yes p L3
def condS (P : ByteArray → Option ByteArray) (L : List Sym) : Tk LitD :=
  (slotS P L).bind fun a L1 =>
    match takesS (isMk sameM) L1 with
    | some L2 => (slotS P L2).bind fun b L3 => .yes (3, zPa, a, b) L3
    | none => (needS (isMk unlikeM) L1).bind fun _ L2 => (slotS P L2).bind fun b L3 => .yes (4, zPa, a, b) L3
def partS (P : ByteArray → Option ByteArray) (L : List Sym) : Tk LitD :=
  match takesS (isWd notW) L with
  | some L1 => (patS P L1).bind fun p L2 => .yes (2, p, zSl, zSl) L2
  | none =>
    match takesS (isMk openM) L with
    | some _ => (patS P L).bind fun p L2 => .yes (1, p, zSl, zSl) L2
    | none => condS P L
/-- The parts behind commas. -/
def moreF (P : ByteArray → Option ByteArray) : Nat → List Sym → Tk (List LitD)
  | 0, L => .no L
  | f + 1, L =>
    match takesS (isMk commaM) L with
    | none => .yes [] L
    | some L1 => (partS P L1).bind fun l L2 => (moreF P f L2).bind fun ls L3 => .yes (l :: ls) L3
def bodyS (P : ByteArray → Option ByteArray) (L : List Sym) : Tk (List LitD) :=
  (partS P L).bind fun l L2 => (moreF P (L2.length + 1) L2).bind fun ls L3 => .yes (l :: ls) L3
def optS (P : ByteArray → Option ByteArray) (L : List Sym) : Tk (List LitD) :=
  match takesS (isMk arrowM) L with
  | some L1 => bodyS P L1
  | none => .yes [] L
def ruleS (P : ByteArray → Option ByteArray) (L : List Sym) : Tk RuleD :=
  (patS P L).bind fun h L1 => (optS P L1).bind fun b L2 => (needS (isMk endM) L2).bind fun _ L3 => if ruleB (h, b) = true then .yes (h, b) L3 else .no L
def endsC (l : List Int) : Bool := decide (l.getLast? = some 58)
/-- What stands behind the word 'prefix'. -/
def irS : List Sym → Tk ByteArray
  | [] => .no []
  | y :: r => if y.kind = 1 then (needS (isMk endM) r).bind fun _ L => .yes (S y.tt) L else .no (y :: r)
def prefS : List Sym → Tk (ByteArray × ByteArray)
  | [] => .no []
  | x :: r => if x.kind = 7 ∧ endsC x.text = true then (irS r).bind fun b L => .yes (S x.text.dropLast, b) L else .no (x :: r)
def updP (P : ByteArray → Option ByteArray) (w b : ByteArray) : ByteArray → Option ByteArray := fun c => if w = c then some b else P c

/-- The rules of symbols, or the symbols from the one on that is wrong. -/
inductive ProgR where
  | no (l : List Sym) | yes (rs : List RuleD)
def ProgR.put (rs : List RuleD) : ProgR → ProgR
  | .no l => .no l
  | .yes us => .yes (rs ++ us)
theorem ProgR.put_put (a b : List RuleD) (r : ProgR) : (r.put b).put a = r.put (a ++ b) := by
  cases r with
  | no l => rfl
  | yes us => simp [ProgR.put]
theorem ProgR.put_nil (r : ProgR) : r.put [] = r := by cases r <;> rfl
def progF : Nat → (ByteArray → Option ByteArray) → List Sym → ProgR
  | _, _, [] => .yes []
  | 0, _, x :: L => .no (x :: L)
  | f + 1, P, x :: L =>
    match takesS (isWd prefixW) (x :: L) with
    | some L1 => match prefS L1 with
      | .no l => .no l
      | .yes (w, b) l => progF f (updP P w b) l
    | none => match ruleS P (x :: L) with
      | .no l => .no l
      | .yes r l => (progF f P l).put [r]
def progS (P : ByteArray → Option ByteArray) (L : List Sym) : ProgR := progF L.length P L

/-- What is left is an end of what was there. -/
def Suf (l L : List Sym) : Prop := ∃ k, k ≤ L.length ∧ l = L.drop k
theorem Suf.refl (L : List Sym) : Suf L L := ⟨0, Nat.zero_le _, rfl⟩
theorem Suf.trans {a b c : List Sym} (h : Suf a b) (k : Suf b c) : Suf a c := by
  obtain ⟨i, hi, rfl⟩ := h
  obtain ⟨j, hj, rfl⟩ := k
  rw [List.length_drop] at hi
  exact ⟨j + i, by omega, by rw [List.drop_drop]⟩
theorem Suf.len {a b : List Sym} (h : Suf a b) : a.length ≤ b.length := by
  obtain ⟨k, hk, rfl⟩ := h
  rw [List.length_drop]; omega
theorem Suf.mem {a b : List Sym} (h : Suf a b) : ∀ x ∈ a, x ∈ b := by
  obtain ⟨k, hk, rfl⟩ := h
  exact fun x hx => List.mem_of_mem_drop hx
theorem Suf.tail (x : Sym) (r : List Sym) : Suf r (x :: r) := ⟨1, by simp, rfl⟩
/-- What is left of a taking. -/
def Tk.left {α : Type} : Tk α → List Sym
  | .no l => l
  | .yes _ l => l
theorem Tk.bind_left {α β : Type} {r : Tk α} {f : α → List Sym → Tk β} {L : List Sym} (h : Suf r.left L) (k : ∀ a l, r = .yes a l → Suf (f a l).left l) : Suf (r.bind f).left L := by
  cases r with
  | no l => exact h
  | yes a l => exact (k a l rfl).trans h
theorem takesS_some {p : Sym → Bool} {L r : List Sym} (h : takesS p L = some r) : ∃ x, L = x :: r ∧ p x = true := by
  cases L with
  | nil => cases h
  | cons x L =>
    rw [takesS] at h
    split at h
    · rename_i hp
      simp only [Option.some.injEq] at h
      exact ⟨x, by rw [h], hp⟩
    · cases h
theorem needS_suf (p : Sym → Bool) (L : List Sym) : Suf (needS p L).left L := by
  unfold needS
  cases h : takesS p L with
  | none => exact Suf.refl L
  | some r =>
    obtain ⟨x, rfl, _⟩ := takesS_some h
    exact Suf.tail x r
theorem needS_yes {p : Sym → Bool} {L l : List Sym} {u : Unit} (h : needS p L = .yes u l) : ∃ x, L = x :: l ∧ p x = true := by
  unfold needS at h
  cases ht : takesS p L with
  | none => rw [ht] at h; cases h
  | some r =>
    rw [ht] at h
    cases h
    exact takesS_some ht
theorem termS_suf (P : ByteArray → Option ByteArray) (L : List Sym) : Suf (termS P L).left L := by
  unfold termS
  cases h : readS P L with
  | none => exact Suf.refl L
  | some x =>
    obtain ⟨t, n⟩ := x
    have := readS_pos h
    exact ⟨n, this.2.2, rfl⟩
theorem slotS_suf (P : ByteArray → Option ByteArray) (L : List Sym) : Suf (slotS P L).left L := by
  cases L with
  | nil => exact Suf.refl _
  | cons x r =>
    rw [slotS]
    split
    · split
      · exact Suf.tail x r
      · exact Suf.refl _
    · exact termS_suf P _
theorem slots3_suf (P : ByteArray → Option ByteArray) (L : List Sym) : Suf (slots3 P L).left L :=
  Tk.bind_left (slotS_suf P L) fun _ L1 _ => Tk.bind_left (slotS_suf P L1) fun _ L2 _ => Tk.bind_left (slotS_suf P L2) fun _ L3 _ => Suf.refl L3
theorem patS_suf (P : ByteArray → Option ByteArray) (L : List Sym) : Suf (patS P L).left L :=
  Tk.bind_left (needS_suf _ L) fun _ L1 _ => Tk.bind_left (slots3_suf P L1) fun _ L2 _ => Tk.bind_left (needS_suf _ L2) fun _ L3 _ => Suf.refl L3
theorem condS_suf (P : ByteArray → Option ByteArray) (L : List Sym) : Suf (condS P L).left L := by
  refine Tk.bind_left (slotS_suf P L) fun a L1 _ => ?_
  cases h : takesS (isMk sameM) L1 with
  | some L2 =>
    obtain ⟨x, rfl, _⟩ := takesS_some h
    refine Suf.trans ?_ (Suf.tail x L2)
    exact Tk.bind_left (slotS_suf P L2) fun _ L3 _ => Suf.refl L3
  | none => exact Tk.bind_left (needS_suf _ L1) fun _ L2 _ => Tk.bind_left (slotS_suf P L2) fun _ L3 _ => Suf.refl L3
theorem partS_suf (P : ByteArray → Option ByteArray) (L : List Sym) : Suf (partS P L).left L := by
  unfold partS
  cases h : takesS (isWd notW) L with
  | some L1 =>
    obtain ⟨x, rfl, _⟩ := takesS_some h
    refine Suf.trans ?_ (Suf.tail x L1)
    exact Tk.bind_left (patS_suf P L1) fun _ L2 _ => Suf.refl L2
  | none =>
    simp only
    cases h2 : takesS (isMk openM) L with
    | some L1 => exact Tk.bind_left (patS_suf P L) fun _ L2 _ => Suf.refl L2
    | none => exact condS_suf P L
theorem moreF_suf (P : ByteArray → Option ByteArray) : ∀ (f : Nat) (L : List Sym), Suf (moreF P f L).left L
  | 0, L => Suf.refl L
  | f + 1, L => by
    unfold moreF
    cases h : takesS (isMk commaM) L with
    | none => exact Suf.refl L
    | some L1 =>
      obtain ⟨x, rfl, _⟩ := takesS_some h
      refine Suf.trans ?_ (Suf.tail x L1)
      exact Tk.bind_left (partS_suf P L1) fun _ L2 _ => Tk.bind_left (moreF_suf P f L2) fun _ L3 _ => Suf.refl L3
theorem moreF_fuel (P : ByteArray → Option ByteArray) : ∀ {f g : Nat} {L : List Sym}, L.length < f → L.length < g → moreF P f L = moreF P g L
  | 0, _, L, h, _ => absurd h (by omega)
  | f + 1, 0, L, _, h => absurd h (by omega)
  | f + 1, g + 1, L, h1, h2 => by
    rw [moreF, moreF]
    cases h : takesS (isMk commaM) L with
    | none => rfl
    | some L1 =>
      obtain ⟨x, rfl, _⟩ := takesS_some h
      simp only [List.length_cons] at h1 h2
      simp only
      have hs := partS_suf P L1
      cases hp : partS P L1 with
      | no l => rfl
      | yes a l =>
        rw [hp] at hs
        have := hs.len
        simp only [Tk.left] at this
        simp only [Tk.bind]
        rw [moreF_fuel P (f := f) (g := g) (by omega) (by omega)]
def moreS (P : ByteArray → Option ByteArray) (L : List Sym) : Tk (List LitD) := moreF P (L.length + 1) L
theorem moreS_eq (P : ByteArray → Option ByteArray) (L : List Sym) : moreS P L = match takesS (isMk commaM) L with
    | none => .yes [] L
    | some L1 => (partS P L1).bind fun l L2 => (moreS P L2).bind fun ls L3 => .yes (l :: ls) L3 := by
  unfold moreS
  conv => lhs; rw [moreF]
  cases h : takesS (isMk commaM) L with
  | none => rfl
  | some L1 =>
    obtain ⟨x, rfl, _⟩ := takesS_some h
    simp only
    have hs := partS_suf P L1
    cases hp : partS P L1 with
    | no l => rfl
    | yes a l =>
      rw [hp] at hs
      have := hs.len
      simp only [Tk.left] at this
      simp only [Tk.bind, List.length_cons]
      rw [moreF_fuel P (f := L1.length + 1) (g := l.length + 1) (by omega) (by omega)]
theorem bodyS_eq (P : ByteArray → Option ByteArray) (L : List Sym) : bodyS P L = (partS P L).bind fun l L2 => (moreS P L2).bind fun ls L3 => .yes (l :: ls) L3 := rfl
theorem bodyS_suf (P : ByteArray → Option ByteArray) (L : List Sym) : Suf (bodyS P L).left L :=
  Tk.bind_left (partS_suf P L) fun _ L2 _ => Tk.bind_left (moreF_suf P _ L2) fun _ L3 _ => Suf.refl L3
theorem optS_suf (P : ByteArray → Option ByteArray) (L : List Sym) : Suf (optS P L).left L := by
  unfold optS
  cases h : takesS (isMk arrowM) L with
  | none => exact Suf.refl L
  | some L1 =>
    obtain ⟨x, rfl, _⟩ := takesS_some h
    exact (bodyS_suf P L1).trans (Suf.tail x L1)
theorem patS_yes {P : ByteArray → Option ByteArray} {L l : List Sym} {p : PatD} (h : patS P L = .yes p l) : l.length < L.length := by
  unfold patS at h
  cases h1 : needS (isMk openM) L with
  | no l => rw [h1] at h; cases h
  | yes u L1 =>
    rw [h1] at h
    obtain ⟨x, rfl, _⟩ := needS_yes h1
    simp only [Tk.bind] at h
    have hs := slots3_suf P L1
    cases h2 : slots3 P L1 with
    | no l => rw [h2] at h; cases h
    | yes q L2 =>
      rw [h2] at h hs
      simp only at h
      cases h3 : needS (isMk closeM) L2 with
      | no l => rw [h3] at h; cases h
      | yes u L3 =>
        rw [h3] at h
        obtain ⟨y, rfl, _⟩ := needS_yes h3
        simp only [Tk.yes.injEq] at h
        have := hs.len
        rw [← h.2]
        simp only [Tk.left, List.length_cons] at *
        omega
theorem ruleS_yes {P : ByteArray → Option ByteArray} {L l : List Sym} {r : RuleD} (h : ruleS P L = .yes r l) : l.length < L.length ∧ ruleB r = true := by
  unfold ruleS at h
  cases h1 : patS P L with
  | no l => rw [h1] at h; cases h
  | yes q L1 =>
    rw [h1] at h
    have hl := patS_yes h1
    simp only [Tk.bind] at h
    have ho := optS_suf P L1
    cases h2 : optS P L1 with
    | no l => rw [h2] at h; cases h
    | yes b L2 =>
      rw [h2] at h ho
      simp only at h
      cases h3 : needS (isMk endM) L2 with
      | no l => rw [h3] at h; cases h
      | yes u L3 =>
        rw [h3] at h
        obtain ⟨y, rfl, _⟩ := needS_yes h3
        simp only at h
        split at h
        · rename_i hr
          simp only [Tk.yes.injEq] at h
          have := ho.len
          rw [← h.2, ← h.1]
          simp only [Tk.left, List.length_cons] at *
          exact ⟨by omega, hr⟩
        · cases h
theorem irS_suf (L : List Sym) : Suf (irS L).left L := by
  cases L with
  | nil => exact Suf.refl _
  | cons y r =>
    rw [irS]
    split
    · refine Suf.trans ?_ (Suf.tail y r)
      exact Tk.bind_left (needS_suf _ r) fun _ L _ => Suf.refl L
    · exact Suf.refl _
theorem prefS_suf (L : List Sym) : Suf (prefS L).left L := by
  cases L with
  | nil => exact Suf.refl _
  | cons x r =>
    rw [prefS]
    split
    · refine Suf.trans ?_ (Suf.tail x r)
      exact Tk.bind_left (irS_suf r) fun _ L _ => Suf.refl L
    · exact Suf.refl _
theorem progF_fuel : ∀ {f g : Nat} {P : ByteArray → Option ByteArray} {L : List Sym}, L.length ≤ f → L.length ≤ g → progF f P L = progF g P L
  | f, g, P, [], _, _ => by cases f <;> cases g <;> rfl
  | 0, g, P, x :: L, h, _ => by simp at h
  | f + 1, 0, P, x :: L, _, h => by simp at h
  | f + 1, g + 1, P, x :: L, h1, h2 => by
    rw [progF, progF]
    simp only [List.length_cons] at h1 h2
    cases ht : takesS (isWd prefixW) (x :: L) with
    | some L1 =>
      obtain ⟨y, e, _⟩ := takesS_some ht
      cases e
      simp only
      have hs := prefS_suf L
      cases hp : prefS L with
      | no l => rfl
      | yes q l =>
        obtain ⟨w, b⟩ := q
        rw [hp] at hs
        have := hs.len
        simp only [Tk.left] at this
        exact progF_fuel (by omega) (by omega)
    | none =>
      simp only
      cases hr : ruleS P (x :: L) with
      | no l => rfl
      | yes r l =>
        have := (ruleS_yes hr).1
        simp only [List.length_cons] at this
        simp only
        rw [progF_fuel (f := f) (g := g) (by omega) (by omega)]
theorem progS_nil (P : ByteArray → Option ByteArray) : progS P [] = .yes [] := rfl
theorem progS_cons (P : ByteArray → Option ByteArray) (L : List Sym) (h : L ≠ []) : progS P L = match takesS (isWd prefixW) L with
    | some L1 => match prefS L1 with
      | .no l => .no l
      | .yes (w, b) l => progS (updP P w b) l
    | none => match ruleS P L with
      | .no l => .no l
      | .yes r l => (progS P l).put [r] := by
  cases L with
  | nil => exact absurd rfl h
  | cons x L =>
    unfold progS
    rw [List.length_cons, progF]
    cases ht : takesS (isWd prefixW) (x :: L) with
    | some L1 =>
      obtain ⟨y, e, _⟩ := takesS_some ht
      cases e
      simp only
      have hs := prefS_suf L
      cases hp : prefS L with
      | no l => rfl
      | yes q l =>
        obtain ⟨w, b⟩ := q
        rw [hp] at hs
        have := hs.len
        simp only [Tk.left] at this
        exact progF_fuel (by omega) (by omega)
    | none =>
      simp only
      cases hr : ruleS P (x :: L) with
      | no l => rfl
      | yes r l =>
        have := (ruleS_yes hr).1
        simp only [List.length_cons] at this
        simp only
        rw [progF_fuel (f := L.length) (g := l.length) (by omega) (by omega)]

/-- What a text is: its rules, or the position and the number of what is wrong. -/
inductive SrcR where
  | bad (p c : Nat) | good (rs : List RuleD)
def placeR (n : Nat) : List Sym → Nat
  | [] => n
  | x :: _ => x.place
def srcOf (n : Nat) : ProgR → SrcR
  | .no l => .bad (placeR n l) 4
  | .yes rs => .good rs
abbrev noPre : ByteArray → Option ByteArray := fun _ => none
def srcS (s : ByteArray) : SrcR :=
  if 1048576 < s.size then .bad 0 3
  else if wfL (bs s) < s.size then .bad (wfL (bs s)) 4
  else if (allL (bs s)).2 < s.size then .bad (allL (bs s)).2 4
  else srcOf s.size (progS noPre (allL (bs s)).1)

/-- A symbol of a text, a variable's too. -/
structure GoodR (N : Nat) (x : Sym) : Prop extends GoodS N x where
  var : x.kind = 5 → nameB (S x.text) = true ∧ x.text ≠ []
end Go.Proofs.YtbcoklbfebmpoaaGreatDoor

/-
  CONTRACTS OF lex.named, whole, Read, OF ANY SYMBOLS.
-/

namespace Go.Proofs.YtbcoklbfebmpoaaGreatDoor
open Go.RowKit
open Utf Term Lex
set_option linter.unusedVariables false
set_option linter.unusedSimpArgs false

/-- What named answers. -/
def NamedOut (P : ByteArray → Option ByteArray) (x : Sym) (w : World) (e : Ending) (w' : World) : Prop :=
  ∃ (t : TermD) (b : Bool), e = .returned (.tuple #[termD t, .bool b]) ∧ Below w.heap.size w w' ∧ (∀ u, namedS P x = some u → b = true ∧ t = u) ∧ (namedS P x = none → b = false)
theorem NamedOut.yes {P : ByteArray → Option ByteArray} {x : Sym} {w : World} {e : Ending} {w' : World} {t : TermD} (h : namedS P x = some t) (he : e = .returned (.tuple #[termD t, .bool true])) (hB : Below w.heap.size w w') : NamedOut P x w e w' :=
  ⟨t, true, he, hB, fun u hu => by rw [h] at hu; exact ⟨rfl, Option.some.inj hu⟩, fun hu => by rw [h] at hu; cases hu⟩
theorem NamedOut.no {P : ByteArray → Option ByteArray} {x : Sym} {w : World} {e : Ending} {w' : World} {t : TermD} (h : namedS P x = none) (he : e = .returned (.tuple #[termD t, .bool false])) (hB : Below w.heap.size w w') : NamedOut P x w e w' :=
  ⟨t, false, he, hB, fun u hu => by (rw [h] at hu; cases hu), fun _ => rfl⟩

theorem strNums_size (l : List Int) : (strOfNums l).size = l.length := strOfNums_size l

set_option maxRecDepth 100000 in
set_option maxHeartbeats 8000000 in
theorem named_other (k : Int) (t0 : ByteArray) (tk : Int) (tt te : ByteArray) (p : Int) (mv : Value) (h1 : k ≠ 1) (h2 : k ≠ 2) (h7 : k ≠ 7) (w : World) :
    Calls Tryz.prog 145 #[.agg (symC k t0 tk tt te p), mv] w fun e w' => e = .returned (.tuple #[.agg (termC 0 ⟨#[]⟩ ⟨#[]⟩), .bool false]) ∧ Below w.heap.size w w' := by
  have hB : Below w.heap.size w (((w.alloc (.cells (symC k t0 tk tt te p) 64)).alloc (.cells zeroTermC 31)).alloc (.cells (termC tk tt te) 31)) := below_next (below_next (below_lex _ _) (below_lex _ _)) (below_lex _ _)
  have hZ : BlockAt (((w.alloc (.cells (symC k t0 tk tt te p) 64)).alloc (.cells zeroTermC 31)).alloc (.cells (termC tk tt te) 31)) (w.heap.size + 1) zeroTermC 31 := by
    have := (block_new (w.alloc (.cells (symC k t0 tk tt te p) 64)) zeroTermC 31).alloc (.cells (termC tk tt te) 31)
    rwa [World.size_alloc] at this
  have e1 : (k == 1) = false := by simpa using h1
  have e2 : (k == 2) = false := by simpa using h2
  have e7 : (k == 7) = false := by simpa using h7
  obtain ⟨W0, hW0⟩ : ∃ W0, W0 = (((w.alloc (.cells (symC k t0 tk tt te p) 64)).alloc (.cells zeroTermC 31)).alloc (.cells (termC tk tt te) 31)) := ⟨_, rfl⟩
  rw [← hW0] at hB hZ
  have HB := Lib.hid hB
  have HZ := Lib.hid hZ
  have HW0 := Lib.hid hW0
  clear hB hZ hW0 h1 h2 h7
  go_enter Tryz.func145, Tryz.ntmps145
  go_upto_region 12 with fail
  rw [← HW0.out]
  have k0 := HZ.out.cell (j := 0) rfl
  have k1 := HZ.out.cell (j := 1) rfl
  have k2 := HZ.out.cell (j := 2) rfl
  have kf : ∀ j, W0.frozen? ⟨w.heap.size + 1, j, none⟩ = false := fun j => HZ.out.free j
  go_wp2_with fail
  refine bodyPost_ret (results_lex rfl _ _ _ (w.heap.size + 1) 31 _ (0, 0) _ rfl (HZ.out.set3 _ _ _) Tryz.underlying31 (by kernel_rfl)) rfl ⟨rfl, ((HB.out.setCell (Nat.le_succ _) _).setCell (Nat.le_succ _) _).setCell (Nat.le_succ _) _⟩

/-- What a map of prefixes tells of each word. -/
def MapS (mv : Value) (P : ByteArray → Option ByteArray) (w : World) : Prop :=
  ∀ (a : ByteArray), (Instr.lookup 41 mv (.string a) true).run Tryz.prog w = .ok (.tuple #[.string ((P a).getD ⟨#[]⟩), .bool (P a).isSome]) w
set_option maxRecDepth 100000 in
set_option maxHeartbeats 8000000 in
theorem named_name (P : ByteArray → Option ByteArray) (x : Sym) (N : Nat) (hk : x.kind = 7) (hg : GoodS N x) (hN : N ≤ 1000000000) (mv : Value) (w : World) (he : LexEnv w) (hm : ∀ W, Below w.heap.size w W → MapS mv P W) (hP : ∀ a b, P a = some b → b.size ≤ 1000000000) :
    Calls Tryz.prog 145 #[.agg (symC 7 (strOfNums x.text) x.tk (strOfNums x.tt) (strOfNums x.te) x.place), mv] w (NamedOut P x w) := by
  have ht : (strOfNums x.text).size ≤ 1000000000 := by rw [strNums_size]; have := hg.lt; omega
  have hbs : bs (strOfNums x.text) = x.text := bs_strOfNums hg.bt
  have h58 := hg.name hk
  have hcut := cutS (strOfNums x.text) (by rw [hbs]; exact h58)
  rw [hbs] at hcut
  have hl : (S (localN x.text)).size ≤ 1000000000 := by show (strOfNums _).size ≤ _; rw [strNums_size]; have := localN_len x.text; have := hg.lt; omega
  have hnm : namedS P x = match P (S (wordN x.text)) with
    | none => none
    | some b => if mayS 1 (b ++ S (localN x.text)) noneB = true then some (1, b ++ S (localN x.text), noneB) else none := by
    unfold namedS
    rw [if_neg (by omega), if_neg (by omega), if_pos hk]
    all_goals (cases P (S (wordN x.text)) <;> rfl)
  obtain ⟨F, hF⟩ : ∃ F, F = NamedOut P x w := ⟨_, rfl⟩
  have HF : Hid (F = NamedOut P x w) := Lib.hid hF
  rw [← hF]
  clear hF
  generalize strOfNums x.text = t0 at *
  generalize strOfNums x.tt = tt at *
  generalize strOfNums x.te = te at *
  generalize (x.tk : Int) = tk at *
  generalize (x.place : Int) = p at *
  have hB : Below w.heap.size w (((w.alloc (.cells (symC 7 t0 tk tt te p) 64)).alloc (.cells zeroTermC 31)).alloc (.cells (termC tk tt te) 31)) := below_next (below_next (below_lex _ _) (below_lex _ _)) (below_lex _ _)
  have hX : BlockAt (((w.alloc (.cells (symC 7 t0 tk tt te p) 64)).alloc (.cells zeroTermC 31)).alloc (.cells (termC tk tt te) 31)) w.heap.size (symC 7 t0 tk tt te p) 64 := ((block_new w _ _).alloc _).alloc _
  have hZ : BlockAt (((w.alloc (.cells (symC 7 t0 tk tt te p) 64)).alloc (.cells zeroTermC 31)).alloc (.cells (termC tk tt te) 31)) (w.heap.size + 1) zeroTermC 31 := by
    have := (block_new (w.alloc (.cells (symC 7 t0 tk tt te p) 64)) zeroTermC 31).alloc (.cells (termC tk tt te) 31)
    rwa [World.size_alloc] at this
  have hT : BlockAt (((w.alloc (.cells (symC 7 t0 tk tt te p) 64)).alloc (.cells zeroTermC 31)).alloc (.cells (termC tk tt te) 31)) (w.heap.size + 1 + 1) (termC tk tt te) 31 := by
    have := block_new ((w.alloc (.cells (symC 7 t0 tk tt te p) 64)).alloc (.cells zeroTermC 31)) (termC tk tt te) 31
    rwa [World.size_alloc, World.size_alloc] at this
  obtain ⟨W0, hW0⟩ : ∃ W0, W0 = (((w.alloc (.cells (symC 7 t0 tk tt te p) 64)).alloc (.cells zeroTermC 31)).alloc (.cells (termC tk tt te) 31)) := ⟨_, rfl⟩
  rw [← hW0] at hB hZ hT hX
  generalize S (localN x.text) = l at *
  generalize S (wordN x.text) = a at *
  have HC : Hid (Calls Tryz.prog 158 #[.string t0, .string ⟨#[58]⟩] W0 fun e w' => e = .returned (.tuple #[.string a, .string l, .bool true]) ∧ Below W0.heap.size W0 w') := Lib.hid (by
    obtain ⟨m, hm⟩ := (he.below hB).len
    refine (Tryz.strings_Cut t0 ⟨#[58]⟩ m W0 (by omega) hm).mono ?_
    rintro e w' ⟨rfl, n, rfl⟩
    refine ⟨?_, lex_drewN _ _ _⟩
    obtain ⟨c1, c2, c3⟩ := hcut
    rw [show (⟨#[58]⟩ : ByteArray).data.toList = [58] from rfl, c1, c2, c3])
  have HB := Lib.hid hB
  have HZ := Lib.hid hZ
  have HT := Lib.hid hT
  have HX := Lib.hid hX
  have HW0 := Lib.hid hW0
  have HM := Lib.hid hm
  have HE := Lib.hid he
  have HNm := Lib.hid hnm
  have HPb := Lib.hid (hP a)
  clear hB hZ hT hX he hW0 hm hcut hnm hP hg h58 hbs
  go_enter Tryz.func145, Tryz.ntmps145
  go_upto_region 8 with fail
  rw [← HW0.out]
  have y1 := HX.out.cell (j := 1) rfl
  go_upto_region 9 with (go_at_call 158; refine HC.out.mono ?_; rintro e y ⟨rfl, hY⟩)
  have HB1 := Lib.hid (HB.out.trans (hY.mono HB.out.size))
  have HZ1 := Lib.hid (HZ.out.kept hY)
  have HT1 := Lib.hid (HT.out.kept hY)
  clear hY y1 HX HC HB HZ HT
  have z0 := HT1.out.cell (j := 0) rfl
  have z1 := HT1.out.cell (j := 1) rfl
  have z2 := HT1.out.cell (j := 2) rfl
  have zf : ∀ j, y.frozen? ⟨w.heap.size + 1 + 1, j, none⟩ = false := fun j => HT1.out.free j
  have hlk := HM.out y HB1.out a
  have HRn : Hid ((P a).isSome = false → ∀ (t : TermD) W, Below w.heap.size w W → F (.returned (.tuple #[termD t, .bool false])) W) := Lib.hid (fun h t W hW => by
    rw [HF.out]
    exact NamedOut.no (by rw [HNm.out, Option.isSome_eq_false_iff.1 h |> Option.isNone_iff_eq_none.1]) rfl hW)
  have HRy : Hid ((P a).isSome = true → ∀ W, Below w.heap.size w W → F (.returned (.tuple #[termD (1, (P a).getD ⟨#[]⟩ ++ l, noneB), .bool (mayS 1 ((P a).getD ⟨#[]⟩ ++ l) noneB)])) W) := Lib.hid (fun h W hW => by
    obtain ⟨b, hb⟩ := Option.isSome_iff_exists.1 h
    rw [HF.out, hb, Option.getD_some]
    cases hmy : mayS 1 (b ++ l) noneB with
    | true => exact NamedOut.yes (by rw [HNm.out, hb]; simp only; rw [if_pos hmy]) rfl hW
    | false => exact NamedOut.no (by rw [HNm.out, hb]; simp only; rw [if_neg (by rw [hmy]; decide)]) rfl hW)
  have hb0 : ((P a).getD ⟨#[]⟩).size ≤ 1000000000 := by
    cases h : P a with
    | none => show (⟨#[]⟩ : ByteArray).size ≤ 1000000000; decide
    | some b => exact HPb.out b h
  clear HNm HPb HF HM
  generalize (P a).getD ⟨#[]⟩ = b0 at *
  generalize (P a).isSome = v at *
  have l1 : ¬ 9223372036854775807 < b0.size + l.size := by omega
  have hms : (b0 ++ l).size ≤ 1000000000000 := by rw [ByteArray.size_append]; omega
  go_upto_region 11 with fail
  have hB2 : Below w.heap.size w (((y.setCell ⟨w.heap.size + 1 + 1, 0, none⟩ (.int .i64 1)).setCell ⟨w.heap.size + 1 + 1, 1, none⟩ (.string (b0 ++ l))).setCell ⟨w.heap.size + 1 + 1, 2, none⟩ (.string ⟨#[]⟩)) := ((HB1.out.setCell (by show w.heap.size ≤ w.heap.size + 1 + 1; omega) _).setCell (by show w.heap.size ≤ w.heap.size + 1 + 1; omega) _).setCell (by show w.heap.size ≤ w.heap.size + 1 + 1; omega) _
  have hZ2 : BlockAt (((y.setCell ⟨w.heap.size + 1 + 1, 0, none⟩ (.int .i64 1)).setCell ⟨w.heap.size + 1 + 1, 1, none⟩ (.string (b0 ++ l))).setCell ⟨w.heap.size + 1 + 1, 2, none⟩ (.string ⟨#[]⟩)) (w.heap.size + 1) zeroTermC 31 := ((HZ1.out.other (by omega) 0 _).other (by omega) 1 _).other (by omega) 2 _
  have hT2 : BlockAt (((y.setCell ⟨w.heap.size + 1 + 1, 0, none⟩ (.int .i64 1)).setCell ⟨w.heap.size + 1 + 1, 1, none⟩ (.string (b0 ++ l))).setCell ⟨w.heap.size + 1 + 1, 2, none⟩ (.string ⟨#[]⟩)) (w.heap.size + 1 + 1) (termC 1 (b0 ++ l) ⟨#[]⟩) 31 := ((HT1.out.set 0 _).set 1 _).set 2 _
  clear z0 z1 z2 zf hlk HZ1 HT1 HB1
  generalize (((y.setCell ⟨w.heap.size + 1 + 1, 0, none⟩ (.int .i64 1)).setCell ⟨w.heap.size + 1 + 1, 1, none⟩ (.string (b0 ++ l))).setCell ⟨w.heap.size + 1 + 1, 2, none⟩ (.string ⟨#[]⟩)) = W2 at *
  have HB2 := Lib.hid hB2
  have HZ2 := Lib.hid hZ2
  have HT2 := Lib.hid hT2
  clear hB2 hZ2 hT2 l1
  generalize b0 ++ l = txt at *
  have x0 := HT2.out.cell (j := 0) rfl
  have x1 := HT2.out.cell (j := 1) rfl
  have x2 := HT2.out.cell (j := 2) rfl
  have k0 := HZ2.out.cell (j := 0) rfl
  have k1 := HZ2.out.cell (j := 1) rfl
  have k2 := HZ2.out.cell (j := 2) rfl
  have kf : ∀ j, W2.frozen? ⟨w.heap.size + 1, j, none⟩ = false := fun j => HZ2.out.free j
  cases v with
  | false =>
    go_region_with fail
    all_goals
      go_wp2
      refine bodyPost_ret (results_lex (p := 4) (u := 5) rfl _ _ _ (w.heap.size + 1) 31 _ (0, 0) _ rfl (HZ2.out.set3 _ _ _) Tryz.underlying31 (by kernel_rfl)) rfl (HRn.out (by trivial) (1, txt, ⟨#[]⟩) _ (((HB2.out.setCell (Nat.le_succ _) _).setCell (Nat.le_succ _) _).setCell (Nat.le_succ _) _).drew)
  | true =>
    have HMy : Hid (∀ n, Calls Tryz.prog 34 #[.agg (termC 1 txt ⟨#[]⟩)] (W2.drewN n) fun e w' => e = .returned (.bool (mayS 1 txt ⟨#[]⟩)) ∧ Below W2.heap.size W2 w') := Lib.hid (fun n => (may_at 1 txt ⟨#[]⟩ _ rfl hms (by decide) (W2.drewN n) (HE.out.below (HB2.out.trans ((lex_drewN _ W2 n).mono HB2.out.size)))).mono fun e w' h => ⟨h.1, (lex_drewN W2.heap.size W2 n).trans h.2⟩)
    clear k0 k1 k2 kf
    go_region_with ((go_at_call 34; refine (HMy.out _).mono ?_; rintro e z ⟨rfl, hY⟩; have k0 := (HZ2.out.kept hY).cell (j := 0) rfl; have k1 := (HZ2.out.kept hY).cell (j := 1) rfl; have k2 := (HZ2.out.kept hY).cell (j := 2) rfl; have kf : ∀ j, z.frozen? ⟨w.heap.size + 1, j, none⟩ = false := fun j => (HZ2.out.kept hY).free j; have z0 := (HT2.out.kept hY).cell (j := 0) rfl; have z1 := (HT2.out.kept hY).cell (j := 1) rfl; have z2 := (HT2.out.kept hY).cell (j := 2) rfl))
    all_goals
      have HB3 := Lib.hid (HB2.out.trans (hY.mono HB2.out.size))
      have HZ3 := Lib.hid (HZ2.out.kept hY)
      clear hY
      go_wp2
      refine bodyPost_ret (results_lex (p := 4) (u := 5) rfl _ _ _ (w.heap.size + 1) 31 _ (0, 0) _ rfl (HZ3.out.set3 _ _ _) Tryz.underlying31 (by kernel_rfl)) rfl (HRy.out (by trivial) _ (((HB3.out.setCell (Nat.le_succ _) _).setCell (Nat.le_succ _) _).setCell (Nat.le_succ _) _))
end Go.Proofs.YtbcoklbfebmpoaaGreatDoor

/-
  THE CONTRACT OF lex.whole, OF ANY SYMBOLS, WHEREVER THE SLICE BEGINS.
-/

namespace Go.Proofs.YtbcoklbfebmpoaaGreatDoor
open Go.RowKit
open Utf Term Lex
set_option linter.unusedVariables false
set_option linter.unusedSimpArgs false

/-- What whole answers: the term r, or none. -/
def WholeOut (r : Option TermD) (w : World) (e : Ending) (w' : World) : Prop :=
  ∃ (t : TermD) (b : Bool), e = .returned (.tuple #[termD t, .bool b]) ∧ Below w.heap.size w w' ∧ (∀ u, r = some u → b = true ∧ t = u) ∧ (r = none → b = false)
theorem WholeOut.yes {r : Option TermD} {w : World} {e : Ending} {w' : World} {t : TermD} (h : r = some t) (he : e = .returned (.tuple #[termD t, .bool true])) (hB : Below w.heap.size w w') : WholeOut r w e w' :=
  ⟨t, true, he, hB, fun u hu => by rw [h] at hu; exact ⟨rfl, Option.some.inj hu⟩, fun hu => by rw [h] at hu; cases hu⟩
theorem WholeOut.no {r : Option TermD} {w : World} {e : Ending} {w' : World} (t : TermD) (h : r = none) (he : e = .returned (.tuple #[termD t, .bool false])) (hB : Below w.heap.size w w') : WholeOut r w e w' :=
  ⟨t, false, he, hB, fun u hu => by (rw [h] at hu; cases hu), fun _ => rfl⟩
theorem okT_out {t : TermD} {w : World} {e : Ending} {w' : World} (he : e = .returned (.tuple #[termD t, .bool (mayD t)])) (hB : Below w.heap.size w w') : WholeOut (okT t) w e w' := by
  cases h : mayD t with
  | true => exact .yes (by unfold okT; rw [if_pos h]) (by rw [← h]; exact he) hB
  | false => exact .no t (by unfold okT; rw [if_neg (by rw [h]; decide)]) (by rw [← h]; exact he) hB

set_option maxRecDepth 100000 in
set_option maxHeartbeats 8000000 in
/-- One symbol that is no string. -/
theorem whole_1 (g o cap : Nat) (hcap : 1 ≤ cap) (k : Int) (hk : k ≠ 3) (t0 : ByteArray) (tk : Int) (tt te : ByteArray) (p : Int) (mv : Value) (r : Option TermD) (w : World) (hc : SixAt w g o (symC k t0 tk tt te p))
    (hN : ∀ W, Below w.heap.size w W → Calls Tryz.prog 145 #[.agg (symC k t0 tk tt te p), mv] W (WholeOut r W)) :
    Calls Tryz.prog 121 #[.slice (some ⟨g, o, none⟩) 1 cap, mv] w (WholeOut r w) := by
  have hB : Below w.heap.size w (w.alloc (.cells zeroTermC 31)) := below_lex _ _
  have hZ : BlockAt (w.alloc (.cells zeroTermC 31)) w.heap.size zeroTermC 31 := block_new _ _ _
  obtain ⟨W0, hW0⟩ : ∃ W0, W0 = w.alloc (.cells zeroTermC 31) := ⟨_, rfl⟩
  rw [← hW0] at hB hZ
  have HM := Lib.hid (hN W0 hB)
  have hc0 := hc.below hB
  have x0 : W0.cell? ⟨g, o, none⟩ = some (.int .i64 k) := hc0 0 (by omega)
  have x1 : W0.cell? ⟨g, o + 1, none⟩ = some (.string t0) := hc0 1 (by omega)
  have x2 : W0.cell? ⟨g, o + 2, none⟩ = some (.int .i64 tk) := hc0 2 (by omega)
  have x3 : W0.cell? ⟨g, o + 3, none⟩ = some (.string tt) := hc0 3 (by omega)
  have x4 : W0.cell? ⟨g, o + 4, none⟩ = some (.string te) := hc0 4 (by omega)
  have x5 : W0.cell? ⟨g, o + 5, none⟩ = some (.int .i64 p) := hc0 5 (by omega)
  have e3 : (k != 3) = true := by simpa using hk
  have HB := Lib.hid hB
  have HZ := Lib.hid hZ
  have HW0 := Lib.hid hW0
  obtain ⟨F, hF⟩ : ∃ F, F = WholeOut r w := ⟨_, rfl⟩
  have HF := Lib.hid hF
  rw [← hF]
  clear hB hZ hN hc hc0 hW0 hk hF
  go_enter Tryz.func121, Tryz.ntmps121
  go_upto_region 1 with fail
  rw [← HW0.out]
  go_wp2_with (go_at_call 145; refine HM.out.mono ?_; rintro e y ⟨t, b, rfl, hY, hy, hn⟩; have k0 := (HZ.out.kept hY).cell (j := 0) rfl; have k1 := (HZ.out.kept hY).cell (j := 1) rfl; have k2 := (HZ.out.kept hY).cell (j := 2) rfl; have kf : ∀ j, y.frozen? ⟨w.heap.size, j, none⟩ = false := fun j => (HZ.out.kept hY).free j)
  have HB1 := Lib.hid (HB.out.trans (hY.mono HB.out.size))
  have HZ1 := Lib.hid (HZ.out.kept hY)
  refine bodyPost_ret (results_lex (p := 4) (u := 5) rfl _ _ _ w.heap.size 31 _ (0, 0) _ rfl (HZ1.out.set3 _ _ _) Tryz.underlying31 (by kernel_rfl)) rfl ?_
  rw [HF.out]
  exact ⟨t, b, rfl, ((HB1.out.setCell (Nat.le_refl _) _).setCell (Nat.le_refl _) _).setCell (Nat.le_refl _) _, hy, hn⟩

set_option maxRecDepth 100000 in
set_option maxHeartbeats 8000000 in
/-- One string. -/
theorem whole_1s (g o cap : Nat) (hcap : 1 ≤ cap) (tt : ByteArray) (tk : Int) (e1 e2 : ByteArray) (p : Int) (mv : Value) (ht : tt.size ≤ 1000000000000) (w : World) (he : LexEnv w) (hc : SixAt w g o (symC 3 tt tk e1 e2 p)) :
    Calls Tryz.prog 121 #[.slice (some ⟨g, o, none⟩) 1 cap, mv] w (WholeOut (okT (3, tt, noneB)) w) := by
  have hB : Below w.heap.size w ((w.alloc (.cells zeroTermC 31)).alloc (.cells (termC 3 tt ⟨#[]⟩) 31)) := below_next (below_lex _ _) (below_lex _ _)
  have hZ : BlockAt ((w.alloc (.cells zeroTermC 31)).alloc (.cells (termC 3 tt ⟨#[]⟩) 31)) w.heap.size zeroTermC 31 := (block_new w zeroTermC _).alloc _
  have hT : BlockAt ((w.alloc (.cells zeroTermC 31)).alloc (.cells (termC 3 tt ⟨#[]⟩) 31)) (w.heap.size + 1) (termC 3 tt ⟨#[]⟩) 31 := by
    have := block_new (w.alloc (.cells zeroTermC 31)) (termC 3 tt ⟨#[]⟩) 31
    rwa [World.size_alloc] at this
  have c0 : w.cell? ⟨g, o, none⟩ = some (.int .i64 3) := hc 0 (by omega)
  have c1 : w.cell? ⟨g, o + 1, none⟩ = some (.string tt) := hc 1 (by omega)
  have d0 : (w.alloc (.cells zeroTermC 31)).cell? ⟨g, o, none⟩ = some (.int .i64 3) := cell_kept_b (below_lex _ _) c0
  have d1 : (w.alloc (.cells zeroTermC 31)).cell? ⟨g, o + 1, none⟩ = some (.string tt) := cell_kept_b (below_lex _ _) c1
  obtain ⟨W0, hW0⟩ : ∃ W0, W0 = ((w.alloc (.cells zeroTermC 31)).alloc (.cells (termC 3 tt ⟨#[]⟩) 31)) := ⟨_, rfl⟩
  rw [← hW0] at hB hZ hT
  obtain ⟨v, hv⟩ : ∃ v, v = mayS 3 tt ⟨#[]⟩ := ⟨_, rfl⟩
  have HM : Hid (∀ n, Calls Tryz.prog 34 #[.agg (termC 3 tt ⟨#[]⟩)] (W0.drewN n) fun e w' => e = .returned (.bool v) ∧ Below W0.heap.size W0 w') := Lib.hid (fun n => (may_at 3 tt ⟨#[]⟩ v hv.symm ht (by decide) (W0.drewN n) (he.below (hB.trans ((lex_drewN _ W0 n).mono hB.size)))).mono fun e w' h => ⟨h.1, (lex_drewN W0.heap.size W0 n).trans h.2⟩)
  obtain ⟨F, hF⟩ : ∃ F, F = WholeOut (okT (3, tt, noneB)) w := ⟨_, rfl⟩
  have HF : Hid (∀ W, Below w.heap.size w W → F (.returned (.tuple #[.agg (termC 3 tt ⟨#[]⟩), .bool v])) W) := Lib.hid (fun W hW => by rw [hF, hv]; exact okT_out rfl hW)
  rw [← hF]
  have HB := Lib.hid hB
  have HZ := Lib.hid hZ
  have HT := Lib.hid hT
  have HW0 := Lib.hid hW0
  clear hB hZ hT he hW0 hc hF hv
  go_enter Tryz.func121, Tryz.ntmps121
  go_upto_region 16 with fail
  rw [← HW0.out]
  have x0 := HT.out.cell (j := 0) rfl
  have x1 := HT.out.cell (j := 1) rfl
  have x2 := HT.out.cell (j := 2) rfl
  go_region_with ((go_at_call 34; refine (HM.out _).mono ?_; rintro e y ⟨rfl, hY⟩; have k0 := (HZ.out.kept hY).cell (j := 0) rfl; have k1 := (HZ.out.kept hY).cell (j := 1) rfl; have k2 := (HZ.out.kept hY).cell (j := 2) rfl; have kf : ∀ j, y.frozen? ⟨w.heap.size, j, none⟩ = false := fun j => (HZ.out.kept hY).free j; have z0 := (HT.out.kept hY).cell (j := 0) rfl; have z1 := (HT.out.kept hY).cell (j := 1) rfl; have z2 := (HT.out.kept hY).cell (j := 2) rfl))
  all_goals
    have HB1 := Lib.hid (HB.out.trans (hY.mono HB.out.size))
    have HZ1 := Lib.hid (HZ.out.kept hY)
    clear hY
    go_wp2
    refine bodyPost_ret (results_lex (p := 4) (u := 5) rfl _ _ _ w.heap.size 31 _ (0, 0) _ rfl (HZ1.out.set3 _ _ _) Tryz.underlying31 (by kernel_rfl)) rfl (HF.out _ (((HB1.out.setCell (Nat.le_refl _) _).setCell (Nat.le_refl _) _).setCell (Nat.le_refl _) _))

set_option maxRecDepth 100000 in
set_option maxHeartbeats 8000000 in
/-- Two symbols or three, of which the first is no string. -/
theorem whole_n (g o n cap : Nat) (hn : 2 ≤ n) (hn3 : n ≤ 3) (hcap : n ≤ cap) (k : Int) (hk : k ≠ 3) (t0 : ByteArray) (tk : Int) (tt te : ByteArray) (p : Int) (mv : Value) (w : World) (hc : SixAt w g o (symC k t0 tk tt te p)) :
    Calls Tryz.prog 121 #[.slice (some ⟨g, o, none⟩) n cap, mv] w (WholeOut none w) := by
  have hB : Below w.heap.size w (w.alloc (.cells zeroTermC 31)) := below_lex _ _
  have hZ : BlockAt (w.alloc (.cells zeroTermC 31)) w.heap.size zeroTermC 31 := block_new _ _ _
  obtain ⟨W0, hW0⟩ : ∃ W0, W0 = w.alloc (.cells zeroTermC 31) := ⟨_, rfl⟩
  rw [← hW0] at hB hZ
  have hc0 := hc.below hB
  have x0 : W0.cell? ⟨g, o, none⟩ = some (.int .i64 k) := hc0 0 (by omega)
  have e3 : (k != 3) = true := by simpa using hk
  have n1 : decide ((1 : Int) < (n : Int)) = true := by simp; omega
  have n0 : (0 : Int) < (n : Int) := by omega
  have k0 := hZ.cell (j := 0) rfl
  have k1 := hZ.cell (j := 1) rfl
  have k2 := hZ.cell (j := 2) rfl
  have kf : ∀ j, W0.frozen? ⟨w.heap.size, j, none⟩ = false := fun j => hZ.free j
  have HB := Lib.hid hB
  have HZ := Lib.hid hZ
  have HW0 := Lib.hid hW0
  obtain ⟨F, hF⟩ : ∃ F, F = WholeOut none w := ⟨_, rfl⟩
  have HF := Lib.hid hF
  rw [← hF]
  clear hB hZ hc hc0 hW0 hk hF
  go_enter Tryz.func121, Tryz.ntmps121
  go_upto_region 1 with fail
  rw [← HW0.out]
  go_wp2_with fail
  refine bodyPost_ret (results_lex (p := 4) (u := 5) rfl _ _ _ w.heap.size 31 _ (0, 0) _ rfl (HZ.out.set3 _ _ _) Tryz.underlying31 (by kernel_rfl)) rfl ?_
  rw [HF.out]
  exact .no (0, ⟨#[]⟩, ⟨#[]⟩) rfl rfl (((HB.out.setCell (Nat.le_refl _) _).setCell (Nat.le_refl _) _).setCell (Nat.le_refl _) _)

/-- What stands at the start of a call on a slice that begins with a string. -/
theorem whole_start (w : World) (tt : ByteArray) : Below w.heap.size w ((w.alloc (.cells zeroTermC 31)).alloc (.cells (termC 3 tt ⟨#[]⟩) 31)) ∧ BlockAt ((w.alloc (.cells zeroTermC 31)).alloc (.cells (termC 3 tt ⟨#[]⟩) 31)) w.heap.size zeroTermC 31 ∧ BlockAt ((w.alloc (.cells zeroTermC 31)).alloc (.cells (termC 3 tt ⟨#[]⟩) 31)) (w.heap.size + 1) (termC 3 tt ⟨#[]⟩) 31 := by
  refine ⟨below_next (below_lex _ _) (below_lex _ _), (block_new w zeroTermC _).alloc _, ?_⟩
  have := block_new (w.alloc (.cells zeroTermC 31)) (termC 3 tt ⟨#[]⟩) 31
  rwa [World.size_alloc] at this

set_option maxRecDepth 100000 in
set_option maxHeartbeats 8000000 in
/-- A string and a language. -/
theorem whole_2l (g o cap : Nat) (hcap : 2 ≤ cap) (tt xx : ByteArray) (tk1 tk2 : Int) (e1 e2 e3 e4 : ByteArray) (p1 p2 : Int) (mv : Value) (ht : tt.size ≤ 1000000000000) (hx : xx.size ≤ 1000000000000) (w : World) (he : LexEnv w) (hc : SixAt w g o (symC 3 tt tk1 e1 e2 p1)) (hd : SixAt w g (o + 6) (symC 4 xx tk2 e3 e4 p2)) :
    Calls Tryz.prog 121 #[.slice (some ⟨g, o, none⟩) 2 cap, mv] w (WholeOut (okT (4, tt, xx)) w) := by
  obtain ⟨hB, hZ, hT⟩ := whole_start w tt
  have c0 : w.cell? ⟨g, o, none⟩ = some (.int .i64 3) := hc 0 (by omega)
  have c1 : w.cell? ⟨g, o + 1, none⟩ = some (.string tt) := hc 1 (by omega)
  have d0 : (w.alloc (.cells zeroTermC 31)).cell? ⟨g, o, none⟩ = some (.int .i64 3) := cell_kept_b (below_lex _ _) c0
  have d1 : (w.alloc (.cells zeroTermC 31)).cell? ⟨g, o + 1, none⟩ = some (.string tt) := cell_kept_b (below_lex _ _) c1
  have e60 := cell_kept_b hB (show w.cell? ⟨g, o + 6, none⟩ = some (.int .i64 4) from hd 0 (by omega))
  have e61 := cell_kept_b hB (show w.cell? ⟨g, o + 6 + 1, none⟩ = some (.string xx) from hd 1 (by omega))
  obtain ⟨W0, hW0⟩ : ∃ W0, W0 = ((w.alloc (.cells zeroTermC 31)).alloc (.cells (termC 3 tt ⟨#[]⟩) 31)) := ⟨_, rfl⟩
  rw [← hW0] at hB hZ hT e60 e61
  have HE := Lib.hid he
  have HB := Lib.hid hB
  have HZ := Lib.hid hZ
  have HT := Lib.hid hT
  have HW0 := Lib.hid hW0
  have HX := Lib.hid hx
  have gne : g ≠ w.heap.size + 1 := fun hh => by
    have := (hc 0 (by omega)); rw [hh] at this; simp [World.cell?] at this
  obtain ⟨v, hv⟩ : ∃ v, v = mayS 4 tt xx := ⟨_, rfl⟩
  have HV := Lib.hid hv
  obtain ⟨F, hF⟩ : ∃ F, F = WholeOut (okT (4, tt, xx)) w := ⟨_, rfl⟩
  have HF : Hid (∀ W, Below w.heap.size w W → F (.returned (.tuple #[.agg (termC 4 tt xx), .bool v])) W) := Lib.hid (fun W hW => by rw [hF, hv]; exact okT_out rfl hW)
  rw [← hF]
  clear hB hZ hT he hW0 hc hd hF hv
  go_enter Tryz.func121, Tryz.ntmps121
  go_upto_region 7 with fail
  rw [← HW0.out]
  go_upto_region 9 with fail
  have x0 := HT.out.cell (j := 0) rfl
  have x1 := HT.out.cell (j := 1) rfl
  have x2 := HT.out.cell (j := 2) rfl
  have kf : ∀ j, W0.frozen? ⟨w.heap.size + 1, j, none⟩ = false := fun j => HT.out.free j
  go_region_with fail
  all_goals
    have hB1 : Below w.heap.size w ((W0.setCell ⟨w.heap.size + 1, 0, none⟩ (.int .i64 4)).setCell ⟨w.heap.size + 1, 2, none⟩ (.string xx)).drew := ((HB.out.setCell (Nat.le_succ _) _).setCell (Nat.le_succ _) _).trans (lex_drewN _ _ 1)
    have hZ1 : BlockAt ((W0.setCell ⟨w.heap.size + 1, 0, none⟩ (.int .i64 4)).setCell ⟨w.heap.size + 1, 2, none⟩ (.string xx)).drew w.heap.size zeroTermC 31 := ((HZ.out.other (by omega) _ _).other (by omega) _ _).drew 1
    have hT1 : BlockAt ((W0.setCell ⟨w.heap.size + 1, 0, none⟩ (.int .i64 4)).setCell ⟨w.heap.size + 1, 2, none⟩ (.string xx)).drew (w.heap.size + 1) (termC 4 tt xx) 31 := ((HT.out.set 0 _).set 2 _).drew 1
    clear x0 x1 x2 kf c0 c1 d0 d1 e60 e61 HB HZ HT HW0
    generalize ((W0.setCell ⟨w.heap.size + 1, 0, none⟩ (.int .i64 4)).setCell ⟨w.heap.size + 1, 2, none⟩ (.string xx)).drew = W1 at *
    have HM : Hid (∀ n, Calls Tryz.prog 34 #[.agg (termC 4 tt xx)] (W1.drewN n) fun e w' => e = .returned (.bool v) ∧ Below W1.heap.size W1 w') := Lib.hid (fun n => (may_at 4 tt xx v HV.out.symm ht hx (W1.drewN n) (HE.out.below (hB1.trans ((lex_drewN _ W1 n).mono hB1.size)))).mono fun e w' h => ⟨h.1, (lex_drewN W1.heap.size W1 n).trans h.2⟩)
    have HB := Lib.hid hB1
    have HZ := Lib.hid hZ1
    have HT := Lib.hid hT1
    clear hB1 hZ1 hT1
    go_upto_region 16 with fail
    have x0 := HT.out.cell (j := 0) rfl
    have x1 := HT.out.cell (j := 1) rfl
    have x2 := HT.out.cell (j := 2) rfl
    go_region_with ((go_at_call 34; refine (HM.out _).mono ?_; rintro e y ⟨rfl, hY⟩; have k0 := (HZ.out.kept hY).cell (j := 0) rfl; have k1 := (HZ.out.kept hY).cell (j := 1) rfl; have k2 := (HZ.out.kept hY).cell (j := 2) rfl; have kf : ∀ j, y.frozen? ⟨w.heap.size, j, none⟩ = false := fun j => (HZ.out.kept hY).free j; have z0 := (HT.out.kept hY).cell (j := 0) rfl; have z1 := (HT.out.kept hY).cell (j := 1) rfl; have z2 := (HT.out.kept hY).cell (j := 2) rfl))
    all_goals
      have HB1 := Lib.hid (HB.out.trans (hY.mono HB.out.size))
      have HZ1 := Lib.hid (HZ.out.kept hY)
      clear hY
      go_wp2
      refine bodyPost_ret (results_lex (p := 4) (u := 5) rfl _ _ _ w.heap.size 31 _ (0, 0) _ rfl (HZ1.out.set3 _ _ _) Tryz.underlying31 (by kernel_rfl)) rfl (HF.out _ (((HB1.out.setCell (Nat.le_refl _) _).setCell (Nat.le_refl _) _).setCell (Nat.le_refl _) _))

set_option maxRecDepth 100000 in
set_option maxHeartbeats 8000000 in
/-- A string and a symbol that is no language. -/
theorem whole_2n (g o cap : Nat) (hcap : 2 ≤ cap) (tt xx : ByteArray) (tk1 tk2 : Int) (e1 e2 e3 e4 : ByteArray) (p1 p2 k : Int) (hk : k ≠ 4) (mv : Value) (w : World) (hc : SixAt w g o (symC 3 tt tk1 e1 e2 p1)) (hd : SixAt w g (o + 6) (symC k xx tk2 e3 e4 p2)) :
    Calls Tryz.prog 121 #[.slice (some ⟨g, o, none⟩) 2 cap, mv] w (WholeOut none w) := by
  obtain ⟨hB, hZ, hT⟩ := whole_start w tt
  have c0 : w.cell? ⟨g, o, none⟩ = some (.int .i64 3) := hc 0 (by omega)
  have c1 : w.cell? ⟨g, o + 1, none⟩ = some (.string tt) := hc 1 (by omega)
  have d0 : (w.alloc (.cells zeroTermC 31)).cell? ⟨g, o, none⟩ = some (.int .i64 3) := cell_kept_b (below_lex _ _) c0
  have d1 : (w.alloc (.cells zeroTermC 31)).cell? ⟨g, o + 1, none⟩ = some (.string tt) := cell_kept_b (below_lex _ _) c1
  have e60 := cell_kept_b hB (show w.cell? ⟨g, o + 6, none⟩ = some (.int .i64 k) from hd 0 (by omega))
  obtain ⟨W0, hW0⟩ : ∃ W0, W0 = ((w.alloc (.cells zeroTermC 31)).alloc (.cells (termC 3 tt ⟨#[]⟩) 31)) := ⟨_, rfl⟩
  rw [← hW0] at hB hZ hT e60
  have e4' : (k == 4) = false := by simpa using hk
  have k0 := hZ.cell (j := 0) rfl
  have k1 := hZ.cell (j := 1) rfl
  have k2 := hZ.cell (j := 2) rfl
  have kf : ∀ j, W0.frozen? ⟨w.heap.size, j, none⟩ = false := fun j => hZ.free j
  have HB := Lib.hid hB
  have HZ := Lib.hid hZ
  have HW0 := Lib.hid hW0
  obtain ⟨F, hF⟩ : ∃ F, F = WholeOut none w := ⟨_, rfl⟩
  have HF := Lib.hid hF
  rw [← hF]
  clear hB hZ hT hW0 hc hd hF hk
  go_enter Tryz.func121, Tryz.ntmps121
  go_upto_region 7 with fail
  rw [← HW0.out]
  go_wp2_with fail
  refine bodyPost_ret (results_lex (p := 4) (u := 5) rfl _ _ _ w.heap.size 31 _ (0, 0) _ rfl (HZ.out.set3 _ _ _) Tryz.underlying31 (by kernel_rfl)) rfl ?_
  rw [HF.out]
  exact .no (0, ⟨#[]⟩, ⟨#[]⟩) rfl rfl (((HB.out.setCell (Nat.le_refl _) _).setCell (Nat.le_refl _) _).setCell (Nat.le_refl _) _)

theorem xsd_neq (x : ByteArray) : (x.toList != (⟨#[104, 116, 116, 112, 58, 47, 47, 119, 119, 119, 46, 119, 51, 46, 111, 114, 103, 47, 50, 48, 48, 49, 47, 88, 77, 76, 83, 99, 104, 101, 109, 97, 35, 115, 116, 114, 105, 110, 103]⟩ : ByteArray).toList) = !decide (x = xsdS) ∧ (x.toList == [104, 116, 116, 112, 58, 47, 47, 119, 119, 119, 46, 119, 51, 46, 111, 114, 103, 47, 50, 48, 48, 49, 47, 88, 77, 76, 83, 99, 104, 101, 109, 97, 35, 115, 116, 114, 105, 110, 103]) = decide (x = xsdS) := by
  have hx : xsdS.toList = [104, 116, 116, 112, 58, 47, 47, 119, 119, 119, 46, 119, 51, 46, 111, 114, 103, 47, 50, 48, 48, 49, 47, 88, 77, 76, 83, 99, 104, 101, 109, 97, 35, 115, 116, 114, 105, 110, 103] := by rw [toList_eq]; rfl
  have h1 : (x.toList == xsdS.toList) = decide (x = xsdS) := by
    rw [Bool.eq_iff_iff, beq_iff_eq, decide_eq_true_eq]
    refine ⟨fun h => ?_, fun h => by rw [h]⟩
    rw [toList_eq, toList_eq] at h
    exact ByteArray.ext (Array.ext' h)
  refine ⟨?_, ?_⟩
  · show (!(x.toList == xsdS.toList)) = _
    rw [h1]
  · rw [← hx]
    exact h1

set_option maxRecDepth 100000 in
set_option maxHeartbeats 16000000 in
/-- Three symbols of which the first is a string. -/
theorem whole_3 (g o cap : Nat) (hcap : 3 ≤ cap) (tt xx : ByteArray) (tk1 tk2 : Int) (e1 e2 e3 e4 : ByteArray) (p1 p2 k2 : Int) (k3 : Int) (t3 : ByteArray) (tk3 : Int) (tt3 te3 : ByteArray) (p3 : Int) (mv : Value) (mb : Bool) (hmb : markB k2 (bs xx) (bs ⟨#[94, 94]⟩) = mb) (N3 : Option TermD) (hk1 : ∀ u, N3 = some u → u.2.1.size ≤ 1000000000000 ∧ u.2.2 = noneB) (ht : tt.size ≤ 1000000000000) (w : World) (he : LexEnv w)
    (hc : SixAt w g o (symC 3 tt tk1 e1 e2 p1)) (hd : SixAt w g (o + 6) (symC k2 xx tk2 e3 e4 p2)) (hf : SixAt w g (o + 12) (symC k3 t3 tk3 tt3 te3 p3))
    (hN : ∀ W, Below w.heap.size w W → Calls Tryz.prog 145 #[.agg (symC k3 t3 tk3 tt3 te3 p3), mv] W (WholeOut N3 W)) :
    Calls Tryz.prog 121 #[.slice (some ⟨g, o, none⟩) 3 cap, mv] w (WholeOut (if mb = true then typedR tt N3 else none) w) := by
  obtain ⟨hB, hZ, hT⟩ := whole_start w tt
  have c0 : w.cell? ⟨g, o, none⟩ = some (.int .i64 3) := hc 0 (by omega)
  have c1 : w.cell? ⟨g, o + 1, none⟩ = some (.string tt) := hc 1 (by omega)
  have d0 : (w.alloc (.cells zeroTermC 31)).cell? ⟨g, o, none⟩ = some (.int .i64 3) := cell_kept_b (below_lex _ _) c0
  have d1 : (w.alloc (.cells zeroTermC 31)).cell? ⟨g, o + 1, none⟩ = some (.string tt) := cell_kept_b (below_lex _ _) c1
  have e60 := cell_kept_b hB (show w.cell? ⟨g, o + 6, none⟩ = some (.int .i64 k2) from hd 0 (by omega))
  have e61 := cell_kept_b hB (show w.cell? ⟨g, o + 6 + 1, none⟩ = some (.string xx) from hd 1 (by omega))
  have e62 := cell_kept_b hB (show w.cell? ⟨g, o + 6 + 2, none⟩ = some (.int .i64 tk2) from hd 2 (by omega))
  have e63 := cell_kept_b hB (show w.cell? ⟨g, o + 6 + 3, none⟩ = some (.string e3) from hd 3 (by omega))
  have e64 := cell_kept_b hB (show w.cell? ⟨g, o + 6 + 4, none⟩ = some (.string e4) from hd 4 (by omega))
  have e65 := cell_kept_b hB (show w.cell? ⟨g, o + 6 + 5, none⟩ = some (.int .i64 p2) from hd 5 (by omega))
  have HFs := Lib.hid (hf.below hB)
  obtain ⟨W0, hW0⟩ : ∃ W0, W0 = ((w.alloc (.cells zeroTermC 31)).alloc (.cells (termC 3 tt ⟨#[]⟩) 31)) := ⟨_, rfl⟩
  rw [← hW0] at hB hZ hT e60 e61 e62 e63 e64 e65 HFs
  have HE := Lib.hid he
  have HB := Lib.hid hB
  have HZ := Lib.hid hZ
  have HT := Lib.hid hT
  have HW0 := Lib.hid hW0
  have HMk := Lib.hid (markIs_at k2 xx tk2 e3 e4 p2 ⟨#[94, 94]⟩ mb hmb W0)
  have HN := Lib.hid hN
  obtain ⟨R, hR⟩ : ∃ R, R = (if mb = true then typedR tt N3 else none) := ⟨_, rfl⟩
  rw [← hR]
  have HR := Lib.hid hR
  have HK1 := Lib.hid hk1
  clear hB hZ hT he hW0 hc hd hf hN hmb hR hk1
  cases mb with
  | false =>
    have HFn : Hid (R = none) := Lib.hid (by rw [HR.out, if_neg (by decide)])
    obtain ⟨F, hF⟩ : ∃ F, F = WholeOut R w := ⟨_, rfl⟩
    have HF := Lib.hid hF
    rw [← hF]
    clear hF HR
    go_enter Tryz.func121, Tryz.ntmps121
    go_upto_region 7 with fail
    rw [← HW0.out]
    go_wp2_with (go_at_call 58; refine HMk.out.mono ?_; rintro e y ⟨rfl, hY⟩; have k0 := (HZ.out.kept hY).cell (j := 0) rfl; have k1 := (HZ.out.kept hY).cell (j := 1) rfl; have k2 := (HZ.out.kept hY).cell (j := 2) rfl; have kf : ∀ j, y.frozen? ⟨w.heap.size, j, none⟩ = false := fun j => (HZ.out.kept hY).free j)
    have HB1 := Lib.hid (HB.out.trans (hY.mono HB.out.size))
    have HZ1 := Lib.hid (HZ.out.kept hY)
    refine bodyPost_ret (results_lex (p := 4) (u := 5) rfl _ _ _ w.heap.size 31 _ (0, 0) _ rfl (HZ1.out.set3 _ _ _) Tryz.underlying31 (by kernel_rfl)) rfl ?_
    rw [HF.out, HFn.out]
    exact .no (0, ⟨#[]⟩, ⟨#[]⟩) rfl rfl (((HB1.out.setCell (Nat.le_refl _) _).setCell (Nat.le_refl _) _).setCell (Nat.le_refl _) _)
  | true =>
    have HR' : Hid (R = typedR tt N3) := Lib.hid (by rw [HR.out, if_pos rfl])
    obtain ⟨F, hF⟩ : ∃ F, F = WholeOut R w := ⟨_, rfl⟩
    have HF := Lib.hid hF
    rw [← hF]
    clear hF HR
    go_enter Tryz.func121, Tryz.ntmps121
    go_upto_region 7 with fail
    rw [← HW0.out]
    go_upto_region 11 with (go_at_call 58; refine HMk.out.mono ?_; rintro e y ⟨rfl, hY⟩)
    have hB1 := HB.out.trans (hY.mono HB.out.size)
    have HZ1 := Lib.hid (HZ.out.kept hY)
    have HT1 := Lib.hid (HT.out.kept hY)
    have hF1 := HFs.out.below hY
    clear e60 e61 e62 e63 e64 e65 c0 c1 d0 d1 HFs hY HZ HT HB HW0
    have x0 : y.cell? ⟨g, o + 12, none⟩ = some (.int .i64 k3) := hF1 0 (by omega)
    have x1 : y.cell? ⟨g, o + 12 + 1, none⟩ = some (.string t3) := hF1 1 (by omega)
    have x2 : y.cell? ⟨g, o + 12 + 2, none⟩ = some (.int .i64 tk3) := hF1 2 (by omega)
    have x3' : y.cell? ⟨g, o + 12 + 3, none⟩ = some (.string tt3) := hF1 3 (by omega)
    have x4 : y.cell? ⟨g, o + 12 + 4, none⟩ = some (.string te3) := hF1 4 (by omega)
    have x5 : y.cell? ⟨g, o + 12 + 5, none⟩ = some (.int .i64 p3) := hF1 5 (by omega)
    have HNy := Lib.hid (HN.out y hB1)
    have HB1 := Lib.hid hB1
    clear hF1 hB1
    go_upto_region 12 with (go_at_call 145; refine HNy.out.mono ?_; rintro e z ⟨t, b, rfl, hV, hyes, hno⟩)
    have hB2 : Below w.heap.size w (z.alloc (.cells #[.int .i64 t.1, .string t.2.1, .string t.2.2] 31)) := below_next (HB1.out.trans (hV.mono HB1.out.size)) (below_lex _ _)
    have hZ2 : BlockAt (z.alloc (.cells #[.int .i64 t.1, .string t.2.1, .string t.2.2] 31)) w.heap.size zeroTermC 31 := (HZ1.out.kept hV).alloc _
    have hT2 : BlockAt (z.alloc (.cells #[.int .i64 t.1, .string t.2.1, .string t.2.2] 31)) (w.heap.size + 1) (termC 3 tt ⟨#[]⟩) 31 := (HT1.out.kept hV).alloc _
    have hN2 : BlockAt (z.alloc (.cells #[.int .i64 t.1, .string t.2.1, .string t.2.2] 31)) z.heap.size #[.int .i64 t.1, .string t.2.1, .string t.2.2] 31 := block_new _ _ _
    clear x0 x1 x2 x3' x4 x5 hV HB1 HZ1 HT1 HNy HN HMk
    generalize z.alloc (.cells #[.int .i64 t.1, .string t.2.1, .string t.2.2] 31) = W2 at *
    have n0 := hN2.cell (j := 0) rfl
    have n1 := hN2.cell (j := 1) rfl
    have HB2 := Lib.hid hB2
    have HZ2 := Lib.hid hZ2
    have HT2 := Lib.hid hT2
    have HYes := Lib.hid hyes
    have HNo := Lib.hid hno
    clear hB2 hZ2 hT2 hN2 hyes hno
    by_cases hbk : b = true ∧ t.1 = 1
    · obtain ⟨rfl, ht1⟩ := hbk
      obtain ⟨k, txt, ex⟩ := t
      have hNs : N3 = some (1, txt, noneB) := by
        cases hN3 : N3 with
        | none => have := HNo.out hN3; cases this
        | some u =>
          obtain ⟨_, hu⟩ := HYes.out u hN3
          obtain ⟨_, h2⟩ := HK1.out u hN3
          rw [← hu] at h2
          rw [← hu]
          simp only at h2 ht1
          rw [h2, ht1]
      have hsz : txt.size ≤ 1000000000000 := (HK1.out _ hNs).1
      simp only at ht1 n0 n1
      subst ht1
      obtain ⟨nx1, nx2⟩ := xsd_neq txt
      have HRx : Hid (R = if txt = xsdS then okT (3, tt, noneB) else okT (5, tt, txt)) := Lib.hid (by rw [HR'.out, hNs]; rfl)
      clear hNs HYes HNo HK1 HR'
      by_cases hxs : txt = xsdS
      · rw [decide_eq_true hxs] at nx1 nx2
        have HRy : Hid (R = okT (3, tt, noneB)) := Lib.hid (by rw [HRx.out, if_pos hxs])
        clear HRx hxs
        go_upto_region 16 with fail
        have HM : Hid (∀ n, Calls Tryz.prog 34 #[.agg (termC 3 tt ⟨#[]⟩)] (W2.drewN n) fun e w' => e = .returned (.bool (mayS 3 tt ⟨#[]⟩)) ∧ Below W2.heap.size W2 w') := Lib.hid (fun n => (may_at 3 tt ⟨#[]⟩ _ rfl ht (by decide) (W2.drewN n) (HE.out.below (HB2.out.trans ((lex_drewN _ W2 n).mono HB2.out.size)))).mono fun e w' h => ⟨h.1, (lex_drewN W2.heap.size W2 n).trans h.2⟩)
        have x0 := HT2.out.cell (j := 0) rfl
        have x1 := HT2.out.cell (j := 1) rfl
        have x2 := HT2.out.cell (j := 2) rfl
        go_region_with ((go_at_call 34; refine (HM.out _).mono ?_; rintro e y ⟨rfl, hY⟩; have k0 := (HZ2.out.kept hY).cell (j := 0) rfl; have k1 := (HZ2.out.kept hY).cell (j := 1) rfl; have k2 := (HZ2.out.kept hY).cell (j := 2) rfl; have kf : ∀ j, y.frozen? ⟨w.heap.size, j, none⟩ = false := fun j => (HZ2.out.kept hY).free j; have z0 := (HT2.out.kept hY).cell (j := 0) rfl; have z1 := (HT2.out.kept hY).cell (j := 1) rfl; have z2 := (HT2.out.kept hY).cell (j := 2) rfl))
        all_goals
          have HB1 := Lib.hid (HB2.out.trans (hY.mono HB2.out.size))
          have HZ1 := Lib.hid (HZ2.out.kept hY)
          clear hY
          go_wp2
          refine bodyPost_ret (results_lex (p := 4) (u := 5) rfl _ _ _ w.heap.size 31 _ (0, 0) _ rfl (HZ1.out.set3 _ _ _) Tryz.underlying31 (by kernel_rfl)) rfl ?_
          rw [HF.out, HRy.out]
          exact okT_out rfl (((HB1.out.setCell (Nat.le_refl _) _).setCell (Nat.le_refl _) _).setCell (Nat.le_refl _) _)
      · rw [decide_eq_false hxs] at nx1 nx2
        have HRy : Hid (R = okT (5, tt, txt)) := Lib.hid (by rw [HRx.out, if_neg hxs])
        clear HRx hxs
        have x0 := HT2.out.cell (j := 0) rfl
        have x1 := HT2.out.cell (j := 1) rfl
        have x2 := HT2.out.cell (j := 2) rfl
        have kf : ∀ j, W2.frozen? ⟨w.heap.size + 1, j, none⟩ = false := fun j => HT2.out.free j
        go_upto_region 15 with fail
        go_region_with fail
        all_goals
          have hB1 : Below w.heap.size w ((W2.setCell ⟨w.heap.size + 1, 0, none⟩ (.int .i64 5)).setCell ⟨w.heap.size + 1, 2, none⟩ (.string txt)).drew := ((HB2.out.setCell (Nat.le_succ _) _).setCell (Nat.le_succ _) _).trans (lex_drewN _ _ 1)
          have hZ1 : BlockAt ((W2.setCell ⟨w.heap.size + 1, 0, none⟩ (.int .i64 5)).setCell ⟨w.heap.size + 1, 2, none⟩ (.string txt)).drew w.heap.size zeroTermC 31 := ((HZ2.out.other (by omega) _ _).other (by omega) _ _).drew 1
          have hT1 : BlockAt ((W2.setCell ⟨w.heap.size + 1, 0, none⟩ (.int .i64 5)).setCell ⟨w.heap.size + 1, 2, none⟩ (.string txt)).drew (w.heap.size + 1) (termC 5 tt txt) 31 := ((HT2.out.set 0 _).set 2 _).drew 1
          clear x0 x1 x2 kf n0 n1 nx1 nx2 HB2 HZ2 HT2
          generalize ((W2.setCell ⟨w.heap.size + 1, 0, none⟩ (.int .i64 5)).setCell ⟨w.heap.size + 1, 2, none⟩ (.string txt)).drew = W1 at *
          have HM : Hid (∀ n, Calls Tryz.prog 34 #[.agg (termC 5 tt txt)] (W1.drewN n) fun e w' => e = .returned (.bool (mayS 5 tt txt)) ∧ Below W1.heap.size W1 w') := Lib.hid (fun n => (may_at 5 tt txt _ rfl ht hsz (W1.drewN n) (HE.out.below (hB1.trans ((lex_drewN _ W1 n).mono hB1.size)))).mono fun e w' h => ⟨h.1, (lex_drewN W1.heap.size W1 n).trans h.2⟩)
          have HB := Lib.hid hB1
          have HZ := Lib.hid hZ1
          have HT := Lib.hid hT1
          clear hB1 hZ1 hT1
          go_upto_region 16 with fail
          have x0 := HT.out.cell (j := 0) rfl
          have x1 := HT.out.cell (j := 1) rfl
          have x2 := HT.out.cell (j := 2) rfl
          go_region_with ((go_at_call 34; refine (HM.out _).mono ?_; rintro e y ⟨rfl, hY⟩; have k0 := (HZ.out.kept hY).cell (j := 0) rfl; have k1 := (HZ.out.kept hY).cell (j := 1) rfl; have k2 := (HZ.out.kept hY).cell (j := 2) rfl; have kf : ∀ j, y.frozen? ⟨w.heap.size, j, none⟩ = false := fun j => (HZ.out.kept hY).free j; have z0 := (HT.out.kept hY).cell (j := 0) rfl; have z1 := (HT.out.kept hY).cell (j := 1) rfl; have z2 := (HT.out.kept hY).cell (j := 2) rfl))
          all_goals
            have HB1 := Lib.hid (HB.out.trans (hY.mono HB.out.size))
            have HZ1 := Lib.hid (HZ.out.kept hY)
            clear hY
            go_wp2
            refine bodyPost_ret (results_lex (p := 4) (u := 5) rfl _ _ _ w.heap.size 31 _ (0, 0) _ rfl (HZ1.out.set3 _ _ _) Tryz.underlying31 (by kernel_rfl)) rfl ?_
            rw [HF.out, HRy.out]
            exact okT_out rfl (((HB1.out.setCell (Nat.le_refl _) _).setCell (Nat.le_refl _) _).setCell (Nat.le_refl _) _)
    · have HRn : Hid (R = none) := Lib.hid (by
        rw [HR'.out]
        cases hN3 : N3 with
        | none => rfl
        | some u =>
          obtain ⟨hb, hu⟩ := HYes.out u hN3
          have hk : u.1 ≠ 1 := fun e => hbk ⟨hb, by rw [hu]; exact e⟩
          show (if u.1 = 1 then _ else none) = none
          rw [if_neg hk])
      clear HYes HNo HK1 HR'
      have k0 := HZ2.out.cell (j := 0) rfl
      have k1 := HZ2.out.cell (j := 1) rfl
      have k2 := HZ2.out.cell (j := 2) rfl
      have kf : ∀ j, W2.frozen? ⟨w.heap.size, j, none⟩ = false := fun j => HZ2.out.free j
      cases b with
      | false =>
        clear hbk
        go_wp2_with fail
        refine bodyPost_ret (results_lex (p := 4) (u := 5) rfl _ _ _ w.heap.size 31 _ (0, 0) _ rfl (HZ2.out.set3 _ _ _) Tryz.underlying31 (by kernel_rfl)) rfl ?_
        rw [HF.out, HRn.out]
        exact .no (0, ⟨#[]⟩, ⟨#[]⟩) rfl rfl (((HB2.out.setCell (Nat.le_refl _) _).setCell (Nat.le_refl _) _).setCell (Nat.le_refl _) _)
      | true =>
        have hk1 : (t.1 != 1) = true := by
          rw [bne_iff_ne]
          exact fun e => hbk ⟨rfl, e⟩
        clear hbk
        go_wp2_with fail
        refine bodyPost_ret (results_lex (p := 4) (u := 5) rfl _ _ _ w.heap.size 31 _ (0, 0) _ rfl (HZ2.out.set3 _ _ _) Tryz.underlying31 (by kernel_rfl)) rfl ?_
        rw [HF.out, HRn.out]
        exact .no (0, ⟨#[]⟩, ⟨#[]⟩) rfl rfl (((HB2.out.setCell (Nat.le_refl _) _).setCell (Nat.le_refl _) _).setCell (Nat.le_refl _) _)
end Go.Proofs.YtbcoklbfebmpoaaGreatDoor

/-
  PLAIN MATHEMATICS: the text of triples is a document of them.
-/

namespace Go.Proofs.YtbcoklbfebmpoaaGreatDoor
open Go.RowKit
open Utf Term Lex
set_option linter.unusedVariables false

/-- A symbol that goes with no string in front of it. -/
def NoTail (y : Sym) : Prop := y.kind ≠ 4 ∧ ¬ (y.kind = 8 ∧ y.text = typeMarkL)
def HeadOK (R : List Sym) : Prop := ∀ y r, R = y :: r → NoTail y
theorem try_one {P : ByteArray → Option ByteArray} {L : List Sym} {x : Sym} {R : List Sym} (h : L = x :: R) : tryS P L 1 = (wholeS P [x]).map (fun t => (t, 1)) := by
  subst h
  unfold tryS
  rw [if_pos (by simp)]
  rfl
theorem read_1 {P : ByteArray → Option ByteArray} {x : Sym} {R : List Sym} {t : TermD} (hx : x.kind ≠ 3) (h : namedS P x = some t) : readS P (x :: R) = some (t, 1) := by
  have h3 : tryS P (x :: R) 3 = none := by
    unfold tryS
    match R with
    | [] => rw [if_neg (by simp)]
    | [y] => rw [if_neg (by simp)]
    | y :: z :: r =>
      rw [if_pos (by simp)]
      show (wholeS P [x, y, z]).map _ = none
      rw [wholeS, if_neg (fun h => hx h.1)]
      rfl
  have h2 : tryS P (x :: R) 2 = none := by
    unfold tryS
    match R with
    | [] => rw [if_neg (by simp)]
    | y :: r =>
      rw [if_pos (by simp)]
      show (wholeS P [x, y]).map _ = none
      rw [wholeS, if_neg (fun h => hx h.1)]
      rfl
  unfold readS
  rw [h3, h2]
  simp only
  rw [try_one rfl, wholeS, if_neg hx, h]
  rfl
theorem read_1s {P : ByteArray → Option ByteArray} {x : Sym} {R : List Sym} {t : TermD} (hx : x.kind = 3) (hR : HeadOK R) (h : okT (3, S x.text, noneB) = some t) : readS P (x :: R) = some (t, 1) := by
  have h3 : tryS P (x :: R) 3 = none := by
    unfold tryS
    match R, hR with
    | [], _ => rw [if_neg (by simp)]
    | [y], _ => rw [if_neg (by simp)]
    | y :: z :: r, hR =>
      rw [if_pos (by simp)]
      show (wholeS P [x, y, z]).map _ = none
      rw [wholeS, if_neg (fun h => (hR y _ rfl).2 h.2)]
      rfl
  have h2 : tryS P (x :: R) 2 = none := by
    unfold tryS
    match R, hR with
    | [], _ => rw [if_neg (by simp)]
    | y :: r, hR =>
      rw [if_pos (by simp)]
      show (wholeS P [x, y]).map _ = none
      rw [wholeS, if_neg (fun h => (hR y _ rfl).1 h.2)]
      rfl
  unfold readS
  rw [h3, h2]
  simp only
  rw [try_one rfl, wholeS, if_pos hx, h]
  rfl
theorem read_2 {P : ByteArray → Option ByteArray} {x y : Sym} {R : List Sym} {t : TermD} (hx : x.kind = 3) (hy : y.kind = 4) (h : okT (4, S x.text, S y.text) = some t) : readS P (x :: y :: R) = some (t, 2) := by
  have h3 : tryS P (x :: y :: R) 3 = none := by
    unfold tryS
    match R with
    | [] => rw [if_neg (by simp)]
    | z :: r =>
      rw [if_pos (by simp)]
      show (wholeS P [x, y, z]).map _ = none
      rw [wholeS, if_neg (fun h => by have := h.2.1; omega)]
      rfl
  have h2 : tryS P (x :: y :: R) 2 = some (t, 2) := by
    unfold tryS
    rw [if_pos (by simp)]
    show (wholeS P [x, y]).map _ = _
    rw [wholeS, if_pos ⟨hx, hy⟩, h]
    rfl
  unfold readS
  rw [h3, h2]
theorem read_3 {P : ByteArray → Option ByteArray} {x y z : Sym} {R : List Sym} {t : TermD} (h : wholeS P [x, y, z] = some t) : readS P (x :: y :: z :: R) = some (t, 3) := by
  have h3 : tryS P (x :: y :: z :: R) 3 = some (t, 3) := by
    unfold tryS
    rw [if_pos (by simp)]
    show (wholeS P [x, y, z]).map _ = _
    rw [h]
    rfl
  unfold readS
  rw [h3]

theorem S_bsB (s : ByteArray) : S (bs s) = s := str_of rfl
theorem okT_may {t : TermD} (h : mayD t = true) : okT t = some t := by unfold okT; rw [if_pos h]

/-- A term's own symbols are read as it. -/
theorem read_term {P : ByteArray → Option ByteArray} {a : TermD} (h : mayD a = true) (p : Nat) {R : List Sym} (hR : HeadOK R) : readS P ((symsOf a.1 (bs a.2.1) (bs a.2.2)).map (shiftS p) ++ R) = some (a, (symsOf a.1 (bs a.2.1) (bs a.2.2)).length) := by
  obtain ⟨k, t, x⟩ := a
  have hm : mayS k t x = true := h
  have e0 : ∀ k' : Int, (k' = 1 ∨ k' = 2 ∨ k' = 3) → k = k' → x = noneB := fun k' hk' e => by
    have h := hm
    subst e
    unfold mayS at h
    rcases hk' with rfl | rfl | rfl
    · rw [if_pos rfl, Bool.and_eq_true] at h
      exact empty_of x (by have := h.1; unfold noExtra at this; simpa using this)
    · rw [if_neg (by decide), if_pos rfl, Bool.and_eq_true] at h
      exact empty_of x (by have := h.1; unfold noExtra at this; simpa using this)
    · rw [if_neg (by decide), if_neg (by decide), if_pos rfl, Bool.and_eq_true] at h
      exact empty_of x (by have := h.1; unfold noExtra at this; simpa using this)
  show readS P ((symsOf k (bs t) (bs x)).map (shiftS p) ++ R) = some ((k, t, x), (symsOf k (bs t) (bs x)).length)
  by_cases h1 : k = 1
  · obtain rfl := e0 1 (.inl rfl) h1
    subst h1
    rw [show symsOf 1 (bs t) (bs noneB) = [⟨1, [], 1, bs t, [], 0⟩] from rfl]
    refine read_1 (by show (1 : Nat) ≠ 3; decide) ?_
    show some ((1 : Int), S (bs t), noneB) = _
    rw [S_bsB]
  by_cases h2 : k = 2
  · obtain rfl := e0 2 (.inr (.inl rfl)) h2
    subst h2
    rw [show symsOf 2 (bs t) (bs noneB) = [⟨2, [], 2, bs t, [], 0⟩] from rfl]
    refine read_1 (by show (2 : Nat) ≠ 3; decide) ?_
    show some ((2 : Int), S (bs t), noneB) = _
    rw [S_bsB]
  by_cases h3 : k = 3
  · obtain rfl := e0 3 (.inr (.inr rfl)) h3
    subst h3
    rw [show symsOf 3 (bs t) (bs noneB) = [⟨3, bs t, 0, [], [], 0⟩] from rfl]
    refine read_1s rfl hR ?_
    show okT (3, S (bs t), noneB) = _
    rw [S_bsB]
    exact okT_may h
  by_cases h4 : k = 4
  · subst h4
    rw [show symsOf 4 (bs t) (bs x) = [⟨3, bs t, 0, [], [], 0⟩, ⟨4, bs x, 0, [], [], (quoteL (bs t)).length⟩] from rfl]
    refine read_2 rfl rfl ?_
    show okT (4, S (bs t), S (bs x)) = _
    rw [S_bsB, S_bsB]
    exact okT_may h
  by_cases h5 : k = 5
  · subst h5
    rw [show symsOf 5 (bs t) (bs x) = [⟨3, bs t, 0, [], [], 0⟩, ⟨8, [94, 94], 0, [], [], (quoteL (bs t)).length⟩, ⟨1, [], 1, bs x, [], (quoteL (bs t)).length + 2⟩] from rfl]
    refine read_3 ?_
    rw [wholeS]
    show (if _ then typedR (S (bs t)) (some ((1 : Int), S (bs x), noneB)) else none) = _
    rw [if_pos ⟨rfl, rfl, rfl⟩, S_bsB, S_bsB]
    have hne : x ≠ xsdS := by
      have := (type_not_xsd t x hm).1
      rw [(xsd_neq x).1] at this
      simpa using this
    show (if (1 : Int) = 1 then (if x = xsdS then _ else okT (5, t, x)) else none) = _
    rw [if_pos rfl, if_neg hne]
    exact okT_may h
  · unfold mayS at hm
    rw [if_neg h1, if_neg h2, if_neg h3, if_neg h4, if_neg h5] at hm
    cases hm

/-- The symbols of a term's text, whatever comes behind a space. -/
theorem span_stop {q : Int → Bool} {l : List Int} (h : ∀ c ∈ l, q c = true) (c : Int) (hc : q c = false) (r : List Int) : spanL q (l ++ c :: r) = l.length := by
  unfold spanL
  induction l with
  | nil => rw [List.nil_append, List.takeWhile_cons, if_neg (by rw [hc]; decide)]
  | cons d l ih => rw [List.cons_append, List.takeWhile_cons, if_pos (h d (by simp)), List.length_cons, List.length_cons, ih (fun e he => h e (List.mem_cons_of_mem _ he))]
theorem toks_ws {c : Int} (hc : isWS c = true) (r : List Int) (p : Nat) : toks (c :: r) p = toks r (p + 1) := by
  have e1 : sk false (c :: r) = 1 + sk false r := by rw [skF, if_pos hc]
  have e2 : (c :: r).drop (1 + sk false r) = r.drop (sk false r) := by rw [Nat.add_comm, List.drop_succ_cons]
  rw [toks_eq (c :: r), toks_eq r, e1, e2]
  have e3 : p + (1 + sk false r) = p + 1 + sk false r := by omega
  rw [e3]
  split
  · rfl
  · cases ho : one (r.drop (sk false r)) with
    | no => rfl
    | bad => rfl
    | got x m =>
      simp only
      have e4 : (c :: r).drop (1 + sk false r + m) = r.drop (sk false r + m) := by rw [show 1 + sk false r + m = (sk false r + m) + 1 by omega, List.drop_succ_cons]
      rw [e4]

end Go.Proofs.YtbcoklbfebmpoaaGreatDoor

/-
  PLAIN MATHEMATICS: the symbols of a text of slots, patterns, parts.
-/

namespace Go.Proofs.YtbcoklbfebmpoaaGreatDoor
open Go.RowKit
open Utf Term Lex
set_option linter.unusedVariables false

/-- A byte at which a word ends, a Blank, a language. -/
structure Stop (c : Int) : Prop where
  ld : letterDigit c = false
  lc : langC c = false
  loc : localC c = false
  colon : c ≠ 58
theorem stop_32 : Stop 32 := ⟨by decide, by decide, by decide, by decide⟩
theorem stop_41 : Stop 41 := ⟨by decide, by decide, by decide, by decide⟩
theorem stop_44 : Stop 44 := ⟨by decide, by decide, by decide, by decide⟩
theorem one_blank_s {l : List Int} (h : isBlankB l = true) {c : Int} (hc : Stop c) (r : List Int) : one (95 :: 58 :: (l ++ c :: r)) = .got ⟨2, [], 2, l, [], 0⟩ (l.length + 2) := by
  have hq : blankT (95 :: 58 :: (l ++ c :: r)) = .got ⟨2, [], 2, l, [], 0⟩ (l.length + 2) := by
    unfold blankT
    have e : (95 :: 58 :: (l ++ c :: r)).drop 2 = l ++ c :: r := rfl
    rw [if_pos (by simp [List.isPrefixOf]), e, span_stop (blank_chars h) c hc.ld, List.take_left, if_pos h]
    congr 1
    omega
  unfold one takers
  rw [hq]
  have h1 : markT (95 :: 58 :: (l ++ c :: r)) = .no := by unfold markT markL; simp [List.isPrefixOf]
  have h2 : spanL letterDigit (95 :: 58 :: (l ++ c :: r)) = 0 := by unfold spanL; rw [List.takeWhile_cons, if_neg (by decide)]; rfl
  have h3 : nameT (95 :: 58 :: (l ++ c :: r)) = .no := by unfold nameT; rw [h2, List.drop_zero, if_neg (by unfold colonB; simp [List.isPrefixOf])]
  have h4 : wordT (95 :: 58 :: (l ++ c :: r)) = .no := by unfold wordT; rw [h2, if_pos rfl]
  have h5 : varT (95 :: 58 :: (l ++ c :: r)) = .no := by unfold varT; rw [if_neg (by simp [List.isPrefixOf])]
  have h6 : quotedT (95 :: 58 :: (l ++ c :: r)) = .no := by unfold quotedT; rw [if_neg (by simp [List.isPrefixOf])]
  have h7 : iriT (95 :: 58 :: (l ++ c :: r)) = .no := by unfold iriT; rw [if_neg (by simp [List.isPrefixOf])]
  rw [h1, h3, h4, h5, h6, h7]
  rfl
theorem one_lang_s {l : List Int} (h : tagL l = true) {c : Int} (hc : Stop c) (r : List Int) : one (64 :: (l ++ c :: r)) = .got (symT 4 l) (l.length + 1) := by
  have hq : langT (64 :: (l ++ c :: r)) = .got (symT 4 l) (l.length + 1) := by
    unfold langT
    have e : (64 :: (l ++ c :: r)).drop 1 = l ++ c :: r := rfl
    rw [if_pos (by simp [List.isPrefixOf]), e, span_stop (tag_chars h) c hc.lc, List.take_left, if_pos h]
    congr 1
    omega
  unfold one takers
  rw [hq]
  have h1 : markT (64 :: (l ++ c :: r)) = .no := by unfold markT markL; simp [List.isPrefixOf]
  have h2 : spanL letterDigit (64 :: (l ++ c :: r)) = 0 := by unfold spanL; rw [List.takeWhile_cons, if_neg (by decide)]; rfl
  have h3 : nameT (64 :: (l ++ c :: r)) = .no := by unfold nameT; rw [h2, List.drop_zero, if_neg (by unfold colonB; simp [List.isPrefixOf])]
  have h4 : wordT (64 :: (l ++ c :: r)) = .no := by unfold wordT; rw [h2, if_pos rfl]
  have h5 : varT (64 :: (l ++ c :: r)) = .no := by unfold varT; rw [if_neg (by simp [List.isPrefixOf])]
  have h6 : quotedT (64 :: (l ++ c :: r)) = .no := by unfold quotedT; rw [if_neg (by simp [List.isPrefixOf])]
  have h7 : iriT (64 :: (l ++ c :: r)) = .no := by unfold iriT; rw [if_neg (by simp [List.isPrefixOf])]
  have h8 : blankT (64 :: (l ++ c :: r)) = .no := by unfold blankT; rw [if_neg (by simp [List.isPrefixOf])]
  rw [h1, h3, h4, h5, h6, h7, h8]
  rfl
theorem one_var_s {l : List Int} (hw : isWordL l = true) (hl : ∀ c ∈ l, letterDigit c = true) {c : Int} (hc : Stop c) (r : List Int) : one (63 :: (l ++ c :: r)) = .got (symT 5 l) (l.length + 1) := by
  have hq : varT (63 :: (l ++ c :: r)) = .got (symT 5 l) (l.length + 1) := by
    unfold varT
    have e : (63 :: (l ++ c :: r)).drop 1 = l ++ c :: r := rfl
    rw [if_pos (by simp [List.isPrefixOf]), e, span_stop hl c hc.ld, List.take_left, if_pos hw]
    congr 1
    omega
  unfold one takers
  rw [hq]
  have h1 : markT (63 :: (l ++ c :: r)) = .no := by unfold markT markL; simp [List.isPrefixOf]
  have h2 : spanL letterDigit (63 :: (l ++ c :: r)) = 0 := by unfold spanL; rw [List.takeWhile_cons, if_neg (by decide)]; rfl
  have h3 : nameT (63 :: (l ++ c :: r)) = .no := by unfold nameT; rw [h2, List.drop_zero, if_neg (by unfold colonB; simp [List.isPrefixOf])]
  have h4 : wordT (63 :: (l ++ c :: r)) = .no := by unfold wordT; rw [h2, if_pos rfl]
  rw [h1, h3, h4]
  rfl
theorem one_word_s {l : List Int} (hw : isWordL l = true) (hl : ∀ c ∈ l, letterDigit c = true) {c : Int} (hc : Stop c) (r : List Int) : one (l ++ c :: r) = .got (symT 6 l) l.length := by
  have h2 : spanL letterDigit (l ++ c :: r) = l.length := span_stop hl c hc.ld r
  have hl0 : 0 < l.length := by unfold isWordL at hw; simp only [Bool.and_eq_true, decide_eq_true_eq] at hw; exact hw.1.1
  have h1 : markT (l ++ c :: r) = .no := by
    cases l with
    | nil => simp at hl0
    | cons d l =>
      have hd := hl d (by simp)
      unfold letterDigit letter small digit at hd
      simp only [Bool.or_eq_true, Bool.and_eq_true, decide_eq_true_eq] at hd
      unfold markT markL
      have : ∀ x : Int, x ∈ [(94 : Int), 58, 33, 61, 46, 44, 40, 41, 123, 125] → (x == d) = false := by
        intro x hx
        simp only [List.mem_cons, List.not_mem_nil, or_false] at hx
        simp only [beq_eq_false_iff_ne, ne_eq]
        omega
      simp [List.isPrefixOf, this]
  have h3 : nameT (l ++ c :: r) = .no := by
    unfold nameT
    rw [h2, List.drop_left, if_neg]
    have := hc.colon
    unfold colonB
    simp [List.isPrefixOf]
    intro h
    exact absurd h.symm this
  have h4 : wordT (l ++ c :: r) = .got (symT 6 l) l.length := by
    unfold wordT
    rw [h2, if_neg (by omega), List.take_left, if_pos hw]
  unfold one takers
  rw [h1, h3, h4]
  rfl
theorem toks_mk (m : List Int) (hm : m ∈ markL) (hf : ∀ r, markT (m ++ r) = .got (symT 8 m) m.length) (hs : ∀ r, sk false (m ++ r) = 0) (hne : m ≠ []) (r : List Int) (p : Nat) : toks (m ++ r) p = ({ symT 8 m with place := p } :: (toks r (p + m.length)).1, (toks r (p + m.length)).2) := by
  have ho : one (m ++ r) = .got (symT 8 m) m.length := by
    unfold one takers
    rw [hf]
    rfl
  rw [toks_one (hs r) (by simp [hne]) ho, List.drop_left]
def mkS (m : List Int) (p : Nat) : Sym := { symT 8 m with place := p }
theorem toks_open (r : List Int) (p : Nat) : toks (40 :: r) p = (mkS openM p :: (toks r (p + 1)).1, (toks r (p + 1)).2) :=
  toks_mk [40] (by decide) (fun r => by unfold markT markL; simp [List.isPrefixOf]) (fun r => by rw [List.cons_append, skF, if_neg (by decide), if_neg (by decide)]) (by simp) r p
theorem toks_close (r : List Int) (p : Nat) : toks (41 :: r) p = (mkS closeM p :: (toks r (p + 1)).1, (toks r (p + 1)).2) :=
  toks_mk [41] (by decide) (fun r => by unfold markT markL; simp [List.isPrefixOf]) (fun r => by rw [List.cons_append, skF, if_neg (by decide), if_neg (by decide)]) (by simp) r p
theorem toks_comma (r : List Int) (p : Nat) : toks (44 :: r) p = (mkS commaM p :: (toks r (p + 1)).1, (toks r (p + 1)).2) :=
  toks_mk [44] (by decide) (fun r => by unfold markT markL; simp [List.isPrefixOf]) (fun r => by rw [List.cons_append, skF, if_neg (by decide), if_neg (by decide)]) (by simp) r p
theorem toks_dot (r : List Int) (p : Nat) : toks (46 :: r) p = (mkS endM p :: (toks r (p + 1)).1, (toks r (p + 1)).2) :=
  toks_mk [46] (by decide) (fun r => by unfold markT markL; simp [List.isPrefixOf]) (fun r => by rw [List.cons_append, skF, if_neg (by decide), if_neg (by decide)]) (by simp) r p
theorem toks_same (r : List Int) (p : Nat) : toks (61 :: r) p = (mkS sameM p :: (toks r (p + 1)).1, (toks r (p + 1)).2) :=
  toks_mk [61] (by decide) (fun r => by unfold markT markL; simp [List.isPrefixOf]) (fun r => by rw [List.cons_append, skF, if_neg (by decide), if_neg (by decide)]) (by simp) r p
theorem toks_unlike (r : List Int) (p : Nat) : toks (33 :: 61 :: r) p = (mkS unlikeM p :: (toks r (p + 2)).1, (toks r (p + 2)).2) :=
  toks_mk [33, 61] (by decide) (fun r => by unfold markT markL; simp [List.isPrefixOf]) (fun r => by rw [List.cons_append, skF, if_neg (by decide), if_neg (by decide)]) (by simp) r p
theorem toks_arrow (r : List Int) (p : Nat) : toks (58 :: 45 :: r) p = (mkS arrowM p :: (toks r (p + 2)).1, (toks r (p + 2)).2) :=
  toks_mk [58, 45] (by decide) (fun r => by unfold markT markL; simp [List.isPrefixOf]) (fun r => by rw [List.cons_append, skF, if_neg (by decide), if_neg (by decide)]) (by simp) r p
theorem toks_not (r : List Int) (p : Nat) : toks (110 :: 111 :: 116 :: 32 :: r) p = ({ symT 6 notW with place := p } :: (toks r (p + 4)).1, (toks r (p + 4)).2) := by
  have ho := one_word_s (l := notW) (by decide) (by decide) stop_32 r
  have e : (110 :: 111 :: 116 :: 32 :: r : List Int) = notW ++ 32 :: r := rfl
  rw [e, toks_one (by show sk false (110 :: _) = 0; rw [skF, if_neg (by decide), if_neg (by decide)]) (by simp) ho, List.drop_left, toks_ws (by decide)]
  rfl

/-- The symbols of a term's text, whatever comes behind it that ends it. -/
theorem toks_term_s {k : Int} {t x : ByteArray} (h : mayS k t x = true) {c : Int} (hc : Stop c) (r : List Int) (p : Nat) :
    toks (textL k t x ++ c :: r) p = ((symsOf k (bs t) (bs x)).map (shiftS p) ++ (toks (c :: r) (p + (textL k t x).length)).1, (toks (c :: r) (p + (textL k t x).length)).2) := by
  have hb := bs_byte t
  unfold mayS at h
  by_cases h1 : k = 1
  · subst h1
    rw [if_pos rfl, Bool.and_eq_true] at h
    rw [show textL 1 t x = 60 :: (bs t ++ [62]) from rfl, show symsOf 1 (bs t) (bs x) = [⟨1, [], 1, bs t, [], 0⟩] from rfl]
    have e : 60 :: (bs t ++ [62]) ++ c :: r = 60 :: (bs t ++ 62 :: (c :: r)) := by simp
    have ed : (60 :: (bs t ++ 62 :: (c :: r))).drop ((bs t).length + 2) = c :: r := by
      rw [show (60 :: (bs t ++ 62 :: (c :: r)) : List Int) = (60 :: (bs t ++ [62])) ++ c :: r by simp, show (bs t).length + 2 = (60 :: (bs t ++ [62]) : List Int).length by simp, List.drop_left]
    rw [e, toks_one (by rw [skF, if_neg (by decide), if_neg (by decide)]) (by simp) (one_iri h.2 (c :: r)), ed]
    simp [shiftS, Nat.add_assoc]
  rw [if_neg h1] at h
  by_cases h2 : k = 2
  · subst h2
    rw [if_pos rfl, Bool.and_eq_true] at h
    rw [show textL 2 t x = 95 :: 58 :: bs t from rfl, show symsOf 2 (bs t) (bs x) = [⟨2, [], 2, bs t, [], 0⟩] from rfl]
    have e : 95 :: 58 :: bs t ++ c :: r = 95 :: 58 :: (bs t ++ c :: r) := by simp
    have ed : (95 :: 58 :: (bs t ++ c :: r)).drop ((bs t).length + 2) = c :: r := by
      rw [List.drop_succ_cons, List.drop_succ_cons, List.drop_left]
    rw [e, toks_one (by rw [skF, if_neg (by decide), if_neg (by decide)]) (by simp) (one_blank_s h.2 hc r), ed]
    simp [shiftS, Nat.add_assoc]
  rw [if_neg h2] at h
  by_cases h3 : k = 3
  · subst h3
    rw [show textL 3 t x = quoteL (bs t) from rfl, show symsOf 3 (bs t) (bs x) = [⟨3, bs t, 0, [], [], 0⟩] from rfl]
    rw [toks_one (sk_quote _ _) (quote_ne _ _) (one_quote (r := c :: r) hb), List.drop_left]
    simp [symT, shiftS]
  rw [if_neg h3] at h
  by_cases h4 : k = 4
  · subst h4
    rw [if_pos rfl, Bool.and_eq_true] at h
    rw [show textL 4 t x = quoteL (bs t) ++ 64 :: bs x from rfl, show symsOf 4 (bs t) (bs x) = [⟨3, bs t, 0, [], [], 0⟩, ⟨4, bs x, 0, [], [], (quoteL (bs t)).length⟩] from rfl]
    have htag : tagL (bs x) = true := by rw [← tagS_any]; exact h.1
    have e : quoteL (bs t) ++ 64 :: bs x ++ c :: r = quoteL (bs t) ++ (64 :: (bs x ++ c :: r)) := by simp
    have ed : (64 :: (bs x ++ c :: r)).drop ((bs x).length + 1) = c :: r := by rw [List.drop_succ_cons, List.drop_left]
    rw [e, toks_one (sk_quote _ _) (quote_ne _ _) (one_quote hb), List.drop_left, toks_one (by rw [skF, if_neg (by decide), if_neg (by decide)]) (by simp) (one_lang_s htag hc r), ed]
    simp [symT, shiftS, Nat.add_assoc, Nat.add_comm]
  rw [if_neg h4] at h
  by_cases h5 : k = 5
  · subst h5
    rw [if_pos rfl, Bool.and_eq_true] at h
    rw [show textL 5 t x = quoteL (bs t) ++ 94 :: 94 :: 60 :: (bs x ++ [62]) from rfl, show symsOf 5 (bs t) (bs x) = [⟨3, bs t, 0, [], [], 0⟩, ⟨8, [94, 94], 0, [], [], (quoteL (bs t)).length⟩, ⟨1, [], 1, bs x, [], (quoteL (bs t)).length + 2⟩] from rfl]
    have hi : isIRIB (bs x) = true := by have := h.1; unfold isTypeB at this; rw [Bool.and_eq_true] at this; exact this.2
    have e : quoteL (bs t) ++ 94 :: 94 :: 60 :: (bs x ++ [62]) ++ c :: r = quoteL (bs t) ++ (94 :: 94 :: (60 :: (bs x ++ 62 :: (c :: r)))) := by simp
    have e1 : (94 :: 94 :: (60 :: (bs x ++ 62 :: (c :: r)))).drop 2 = 60 :: (bs x ++ 62 :: (c :: r)) := rfl
    have ed : (60 :: (bs x ++ 62 :: (c :: r))).drop ((bs x).length + 2) = c :: r := by
      rw [show (60 :: (bs x ++ 62 :: (c :: r)) : List Int) = (60 :: (bs x ++ [62])) ++ c :: r by simp, show (bs x).length + 2 = (60 :: (bs x ++ [62]) : List Int).length by simp, List.drop_left]
    rw [e, toks_one (sk_quote _ _) (quote_ne _ _) (one_quote hb), List.drop_left, toks_one (by rw [skF, if_neg (by decide), if_neg (by decide)]) (by simp) (one_mark _), e1, toks_one (by rw [skF, if_neg (by decide), if_neg (by decide)]) (by simp) (one_iri hi (c :: r)), ed]
    have e9 : p + (quoteL (bs t)).length + 2 + ((bs x).length + 2) = p + ((quoteL (bs t)).length + ((bs x).length + 1 + 1 + 1 + 1)) := by omega
    have e8 : (quoteL (bs t) ++ 94 :: 94 :: 60 :: (bs x ++ [62])).length = (quoteL (bs t)).length + ((bs x).length + 1 + 1 + 1 + 1) := by simp
    rw [e8, e9]
    simp [symT, shiftS, Nat.add_comm, Nat.add_left_comm]
  · rw [if_neg h5] at h
    cases h
end Go.Proofs.YtbcoklbfebmpoaaGreatDoor

/-
  PLAIN MATHEMATICS: the symbols of a text, their variables too.
-/

namespace Go.Proofs.YtbcoklbfebmpoaaGreatDoor
open Go.RowKit
open Utf Term Lex
set_option linter.unusedVariables false

theorem span_take_all {p : Int → Bool} (l : List Int) : ∀ c ∈ l.take (spanL p l), p c = true := by
  induction l with
  | nil => intro c hc; simp at hc
  | cons d l ih =>
    intro c hc
    unfold spanL at hc
    rw [List.takeWhile_cons] at hc
    split at hc
    · rename_i hd
      rw [List.length_cons, List.take_succ_cons] at hc
      rcases List.mem_cons.1 hc with rfl | hc
      · exact hd
      · exact ih c hc
    · simp at hc
theorem word_name {w : List Int} (hb : ByteL w) (hw : isWordL w = true) (hl : ∀ c ∈ w, letterDigit c = true) : nameB (S w) = true ∧ w ≠ [] := by
  unfold isWordL at hw
  simp only [Bool.and_eq_true, decide_eq_true_eq, Bool.not_eq_true'] at hw
  obtain ⟨⟨h0, h32⟩, hd⟩ := hw
  have hne : w ≠ [] := by intro e; subst e; simp at h0
  refine ⟨?_, hne⟩
  unfold nameB
  have hz : (S w).size = w.length := strOfNums_size w
  rw [hz, decide_eq_true h32, Bool.true_and]
  refine blank_may hb ?_
  unfold isBlankB
  rw [eachB_low letterDigit_high (by omega) hb, decide_eq_true h0, decide_eq_true (show w.length ≤ 64 by omega)]
  have hh : letter (w.headD 0) = true := by
    cases w with
    | nil => simp at h0
    | cons c w =>
      have := hl c (by simp)
      simp only [List.headD_cons] at hd ⊢
      unfold letterDigit at this
      rw [hd, Bool.or_false] at this
      exact this
  rw [hh, List.all_eq_true.2 hl]
  rfl
theorem one_var {l : List Int} (hb : ByteL l) {x : Sym} {n : Nat} (h : one l = .got x n) (h5 : x.kind = 5) : nameB (S x.text) = true ∧ x.text ≠ [] := by
  have hm := firstT_mem h
  unfold takers at hm
  simp only [List.mem_cons, List.not_mem_nil, or_false] at hm
  rcases hm with hm | hm | hm | hm | hm | hm | hm | hm
  · have hm := hm.symm
    unfold markT at hm
    cases hf : markL.find? (fun m => m.isPrefixOf l) with
    | none => rw [hf] at hm; cases hm
    | some m =>
      rw [hf] at hm
      simp only [Took.got.injEq] at hm
      rw [← hm.1] at h5
      exact absurd h5 (by show (8 : Nat) ≠ 5; decide)
  · have hm := hm.symm
    unfold nameT at hm
    split at hm
    · split at hm
      · cases hm
      · simp only [Took.got.injEq] at hm
        rw [← hm.1] at h5
        exact absurd h5 (by show (7 : Nat) ≠ 5; decide)
    · cases hm
  · have hm := hm.symm
    unfold wordT at hm
    split at hm
    · cases hm
    · split at hm
      · simp only [Took.got.injEq] at hm
        rw [← hm.1] at h5
        exact absurd h5 (by show (6 : Nat) ≠ 5; decide)
      · cases hm
  · have hm := hm.symm
    unfold varT at hm
    split at hm
    · split at hm
      · rename_i hw
        simp only [Took.got.injEq] at hm
        rw [← hm.1]
        exact word_name ((hb.drop 1).take _) hw (span_take_all _)
      · cases hm
    · cases hm
  · have hm := hm.symm
    unfold quotedT at hm
    split at hm
    · split at hm
      · cases hm
      · simp only [Took.got.injEq] at hm
        rw [← hm.1] at h5
        exact absurd h5 (by show (3 : Nat) ≠ 5; decide)
    · cases hm
  · have hm := hm.symm
    unfold iriT at hm
    split at hm
    · split at hm
      · cases hm
      · split at hm
        · simp only [Took.got.injEq] at hm
          rw [← hm.1] at h5
          exact absurd h5 (by show (1 : Nat) ≠ 5; decide)
        · cases hm
    · cases hm
  · have hm := hm.symm
    unfold blankT at hm
    split at hm
    · split at hm
      · simp only [Took.got.injEq] at hm
        rw [← hm.1] at h5
        exact absurd h5 (by show (2 : Nat) ≠ 5; decide)
      · cases hm
    · cases hm
  · have hm := hm.symm
    unfold langT at hm
    split at hm
    · split at hm
      · simp only [Took.got.injEq] at hm
        rw [← hm.1] at h5
        exact absurd h5 (by show (4 : Nat) ≠ 5; decide)
      · cases hm
    · cases hm
theorem toks_var : ∀ (n : Nat) (l : List Int) (p : Nat), l.length ≤ n → ByteL l → ∀ x ∈ (toks l p).1, x.kind = 5 → nameB (S x.text) = true ∧ x.text ≠ [] := by
  intro n
  induction n with
  | zero =>
    intro l p hn _
    obtain rfl : l = [] := List.eq_nil_of_length_eq_zero (by omega)
    rw [toks_eq]
    simp [sk]
  | succ n ih =>
    intro l p hn hb
    rw [toks_eq l p]
    have hs := sk_le false l
    split
    · simp
    · cases ho : one (l.drop (sk false l)) with
      | no => simp
      | bad => simp
      | got x m =>
        have hp := one_pos ho
        rw [List.length_drop] at hp
        simp only
        intro y hy h5
        rcases List.mem_cons.1 hy with rfl | hy
        · have h5' : x.kind = 5 := h5
          have h6 := one_var (hb.drop (sk false l)) ho h5'
          exact h6
        · exact ih (l.drop (sk false l + m)) (p + sk false l + m) (by rw [List.length_drop]; omega) (hb.drop _) y hy h5
theorem all_goodR (s : ByteArray) : ∀ x ∈ (allL (bs s)).1, GoodR s.size x := fun x hx => ⟨all_good s x hx, toks_var _ _ 0 (Nat.le_refl _) (bs_byte s) x hx⟩

/-- What is read may be. -/
theorem okT_mayD {t u : TermD} (h : okT t = some u) : mayD u = true := by
  unfold okT at h
  split at h
  · simp only [Option.some.injEq] at h; subst h; assumption
  · cases h
theorem named_mayD {P : ByteArray → Option ByteArray} {N : Nat} {x : Sym} (hg : GoodS N x) {t : TermD} (h : namedS P x = some t) : mayD t = true := by
  unfold namedS at h
  split at h
  · rename_i h1
    simp only [Option.some.injEq] at h; subst h
    exact (hg.iri h1).2.2
  · split at h
    · rename_i h2
      simp only [Option.some.injEq] at h; subst h
      exact (hg.blank h2).2.2
    · split at h
      · split at h
        · cases h
        · split at h
          · simp only [Option.some.injEq] at h; subst h
            assumption
          · cases h
      · cases h
theorem whole_mayD {P : ByteArray → Option ByteArray} {N : Nat} {L : List Sym} (hg : ∀ x ∈ L, GoodS N x) {t : TermD} (h : wholeS P L = some t) : mayD t = true := by
  match L, h with
  | [x], h =>
    rw [wholeS] at h
    split at h
    · exact okT_mayD h
    · exact named_mayD (hg x (by simp)) h
  | [x, y], h =>
    rw [wholeS] at h
    split at h
    · exact okT_mayD h
    · cases h
  | [x, y, z], h =>
    rw [wholeS] at h
    split at h
    · unfold typedR at h
      split at h
      · cases h
      · split at h
        · split at h <;> exact okT_mayD h
        · cases h
    · cases h
theorem read_mayD {P : ByteArray → Option ByteArray} {N : Nat} {L : List Sym} (hg : ∀ x ∈ L, GoodS N x) {t : TermD} {n : Nat} (h : readS P L = some (t, n)) : mayD t = true := by
  have key : ∀ k, tryS P L k = some (t, n) → mayD t = true := by
    intro k hk
    unfold tryS at hk
    split at hk
    · cases hw : wholeS P (L.take k) with
      | none => rw [hw] at hk; cases hk
      | some u =>
        rw [hw] at hk
        simp only [Option.map_some, Option.some.injEq, Prod.mk.injEq] at hk
        rw [← hk.1]
        exact whole_mayD (fun x hx => hg x (List.mem_of_mem_take hx)) hw
    · cases hk
  unfold readS at h
  cases h3 : tryS P L 3 with
  | some r => rw [h3] at h; simp only [Option.some.injEq] at h; subst h; exact key 3 h3
  | none =>
    rw [h3] at h
    simp only at h
    cases h2 : tryS P L 2 with
    | some r => rw [h2] at h; simp only [Option.some.injEq] at h; subst h; exact key 2 h2
    | none => rw [h2] at h; exact key 1 h
theorem slot_ok {P : ByteArray → Option ByteArray} {N : Nat} {L l : List Sym} (hg : ∀ x ∈ L, GoodR N x) {s : SlotD} (h : slotS P L = .yes s l) : slotB s = true := by
  cases L with
  | nil => cases h
  | cons x r =>
    rw [slotS] at h
    split at h
    · split at h
      · rename_i h5 hn
        simp only [Tk.yes.injEq] at h
        rw [← h.1]
        unfold slotB
        have hz : (S x.text).size = x.text.length := strOfNums_size _
        have h0 : x.text.length ≠ 0 := fun e => ((hg x (by simp)).var h5).2 (List.eq_nil_of_length_eq_zero e)
        rw [if_neg (by show (S x.text).size ≠ 0; omega), hn]
        simp
      · cases h
    · unfold termS at h
      cases hr : readS P (x :: r) with
      | none => rw [hr] at h; cases h
      | some q =>
        obtain ⟨t, n⟩ := q
        rw [hr] at h
        simp only [Tk.yes.injEq] at h
        rw [← h.1]
        have e : slotB (noneB, t) = mayD t := by unfold slotB; exact if_pos rfl
        rw [e]
        exact read_mayD (fun x hx => (hg x hx).toGoodS) hr
theorem slots3_ok {P : ByteArray → Option ByteArray} {N : Nat} {L l : List Sym} (hg : ∀ x ∈ L, GoodR N x) {p : PatD} (h : slots3 P L = .yes p l) : patB p = true := by
  unfold slots3 at h
  have s1 := slotS_suf P L
  cases h1 : slotS P L with
  | no l => rw [h1] at h; cases h
  | yes a L1 =>
    rw [h1] at h s1
    simp only [Tk.bind] at h
    have s2 := slotS_suf P L1
    cases h2 : slotS P L1 with
    | no l => rw [h2] at h; cases h
    | yes b L2 =>
      rw [h2] at h s2
      simp only at h
      cases h3 : slotS P L2 with
      | no l => rw [h3] at h; cases h
      | yes c L3 =>
        rw [h3] at h
        simp only [Tk.yes.injEq] at h
        rw [← h.1]
        unfold patB
        rw [slot_ok hg h1, slot_ok (fun x hx => hg x (s1.mem x hx)) h2, slot_ok (fun x hx => hg x (s1.mem x (s2.mem x hx))) h3]
        rfl
theorem pat_ok {P : ByteArray → Option ByteArray} {N : Nat} {L l : List Sym} (hg : ∀ x ∈ L, GoodR N x) {p : PatD} (h : patS P L = .yes p l) : patB p = true := by
  unfold patS at h
  have s1 := needS_suf (isMk openM) L
  cases h1 : needS (isMk openM) L with
  | no l => rw [h1] at h; cases h
  | yes u L1 =>
    rw [h1] at h s1
    simp only [Tk.bind] at h
    cases h2 : slots3 P L1 with
    | no l => rw [h2] at h; cases h
    | yes q L2 =>
      rw [h2] at h
      simp only at h
      cases h3 : needS (isMk closeM) L2 with
      | no l => rw [h3] at h; cases h
      | yes u L3 =>
        rw [h3] at h
        simp only [Tk.yes.injEq] at h
        rw [← h.1]
        exact slots3_ok (fun x hx => hg x (s1.mem x hx)) h2
theorem cond_ok {P : ByteArray → Option ByteArray} {N : Nat} {L l : List Sym} (hg : ∀ x ∈ L, GoodR N x) {y : LitD} (h : condS P L = .yes y l) : litB y = true := by
  unfold condS at h
  have s1 := slotS_suf P L
  cases h1 : slotS P L with
  | no l => rw [h1] at h; cases h
  | yes a L1 =>
    rw [h1] at h s1
    simp only [Tk.bind] at h
    have ha := slot_ok hg h1
    cases h2 : takesS (isMk sameM) L1 with
    | some L2 =>
      rw [h2] at h
      simp only at h
      obtain ⟨x, rfl, _⟩ := takesS_some h2
      cases h3 : slotS P L2 with
      | no l => rw [h3] at h; cases h
      | yes b L3 =>
        rw [h3] at h
        simp only [Tk.yes.injEq] at h
        rw [← h.1]
        have hb := slot_ok (fun x hx => hg x (s1.mem x (List.mem_cons_of_mem _ hx))) h3
        unfold litB
        rw [if_neg (by omega), if_pos (.inl rfl), ha, hb]
        simp
    | none =>
      rw [h2] at h
      simp only at h
      have s2 := needS_suf (isMk unlikeM) L1
      cases h4 : needS (isMk unlikeM) L1 with
      | no l => rw [h4] at h; cases h
      | yes u L2 =>
        rw [h4] at h s2
        simp only at h
        cases h3 : slotS P L2 with
        | no l => rw [h3] at h; cases h
        | yes b L3 =>
          rw [h3] at h
          simp only [Tk.yes.injEq] at h
          rw [← h.1]
          have hb := slot_ok (fun x hx => hg x (s1.mem x (s2.mem x hx))) h3
          unfold litB
          rw [if_neg (by omega), if_pos (.inr rfl), ha, hb]
          simp
theorem part_ok {P : ByteArray → Option ByteArray} {N : Nat} {L l : List Sym} (hg : ∀ x ∈ L, GoodR N x) {y : LitD} (h : partS P L = .yes y l) : litB y = true := by
  unfold partS at h
  cases h1 : takesS (isWd notW) L with
  | some L1 =>
    rw [h1] at h
    obtain ⟨x, rfl, _⟩ := takesS_some h1
    simp only at h
    cases h2 : patS P L1 with
    | no l => rw [h2] at h; cases h
    | yes p L2 =>
      rw [h2] at h
      simp only [Tk.bind, Tk.yes.injEq] at h
      rw [← h.1]
      have hp := pat_ok (fun x hx => hg x (List.mem_cons_of_mem _ hx)) h2
      unfold litB
      rw [if_pos (.inr rfl), hp]
      simp
  | none =>
    rw [h1] at h
    simp only at h
    cases h3 : takesS (isMk openM) L with
    | some L1 =>
      rw [h3] at h
      simp only at h
      cases h2 : patS P L with
      | no l => rw [h2] at h; cases h
      | yes p L2 =>
        rw [h2] at h
        simp only [Tk.bind, Tk.yes.injEq] at h
        rw [← h.1]
        have hp := pat_ok hg h2
        unfold litB
        rw [if_pos (.inl rfl), hp]
        simp
    | none =>
      rw [h3] at h
      exact cond_ok hg h
end Go.Proofs.YtbcoklbfebmpoaaGreatDoor

/-
  CONTRACTS OF THE REFERENCE's Run, All: exact.
-/

namespace Go.Proofs.YtbcoklbfebmpoaaGreatDoor
open Go.RowKit
open Utf Term Lex
set_option linter.unusedVariables false
set_option linter.unusedSimpArgs false

/-- The symbols from a place on where one should begin. -/
def atSym (l : List Int) (a : Nat) : List Sym × Nat :=
  if l.drop a = [] then ([], a)
  else match one (l.drop a) with
  | .got x n => ({ x with place := a } :: (toks (l.drop (a + n)) (a + n)).1, (toks (l.drop (a + n)) (a + n)).2)
  | _ => ([], a)
theorem toks_at (l : List Int) (b : Nat) : toks (l.drop b) b = atSym l (b + sk false (l.drop b)) := by
  rw [toks_eq]
  unfold atSym
  rw [List.drop_drop]
  split
  · rfl
  · cases one (l.drop (b + sk false (l.drop b))) with
    | no => rfl
    | bad => rfl
    | got x n => simp only [List.drop_drop, Nat.add_assoc]
/-- What has been taken, and what comes, make up T. -/
def GotA (l : List Int) (acc : List Sym) (a : Nat) (T : List Sym × Nat) : Prop := T = (acc ++ (atSym l a).1, (atSym l a).2)
theorem GotA.next {l : List Int} {acc : List Sym} {a n : Nat} {T : List Sym × Nat} {x : Sym} (h : GotA l acc a T) (ha : a < l.length) (ho : one (l.drop a) = .got x n) : GotA l (acc ++ [{ x with place := a }]) (a + n + sk false (l.drop (a + n))) T := by
  unfold GotA at *
  rw [h, ← toks_at]
  unfold atSym
  rw [if_neg (by intro e; have := List.drop_eq_nil_iff.1 e; omega), ho]
  simp
theorem GotA.bad {l : List Int} {acc : List Sym} {a : Nat} {T : List Sym × Nat} (h : GotA l acc a T) (ho : ∀ x n, one (l.drop a) ≠ .got x n) : T = (acc, a) := by
  unfold GotA at *
  rw [h]
  unfold atSym
  split
  · simp
  · cases hh : one (l.drop a) with
    | no => simp
    | bad => simp
    | got x n => exact absurd hh (ho x n)
theorem GotA.over {l : List Int} {acc : List Sym} {a : Nat} {T : List Sym × Nat} (h : GotA l acc a T) (ha : l.length ≤ a) : T = (acc, a) := by
  unfold GotA at *
  rw [h]
  unfold atSym
  rw [if_pos (List.drop_eq_nil_of_le ha)]
  simp
theorem slice_first (s : ByteArray) (c : Nat) (h : c ≤ s.size) (w : World) : (Instr.slice 9 (.string s) none (some (.int .i64 (c : Int))) none).run Tryz.prog w = .ok (.string (s.extract 0 c)) w := by
  rw [run_slice_string_h w 9 s Tryz.underlying9 .i64 (c : Int) (by omega) (by omega)]
  rw [show (c : Int).toNat = c by omega]

theorem OneX.none {T : Took} {a : Nat} {w : World} {e : Ending} {w' : World} (h : OneX T a w e w') (hT : ∀ x n, T ≠ .got x n) : Below w.heap.size w w' ∧ ∃ k t tk tt te p, e = .returned (.tuple #[.agg (symC k t tk tt te p), .int .i64 (-1)]) := by
  obtain ⟨h1, h2⟩ := h
  cases T with
  | got x n => exact absurd rfl (hT x n)
  | no => exact ⟨h1, h2⟩
  | bad => exact ⟨h1, h2⟩

end Go.Proofs.YtbcoklbfebmpoaaGreatDoor

/-
  THE CONTRACT OF lex.Read, OF ANY SYMBOLS, WHEREVER THE SLICE BEGINS.
-/

namespace Go.Proofs.YtbcoklbfebmpoaaGreatDoor
open Go.RowKit
open Utf Term Lex
set_option linter.unusedVariables false
set_option linter.unusedSimpArgs false

/-- Symbols' cells in a row. -/
def RowS (W : World) (g o : Nat) (L : List Sym) : Prop := ∀ j u, (flatS L)[j]? = some u → W.cell? ⟨g, o + j, none⟩ = some u
theorem RowS.below {W W' : World} {g o : Nat} {L : List Sym} (h : RowS W g o L) (k : Below W.heap.size W W') : RowS W' g o L := fun j u e => cell_kept_b k (h j u e)
theorem RowS.take {W : World} {g o : Nat} {L : List Sym} (h : RowS W g o L) (n : Nat) : RowS W g o (L.take n) := fun j u e => by
  refine h j u ?_
  have e2 : flatS L = flatS (L.take n) ++ flatS (L.drop n) := by rw [← flatS_append, List.take_append_drop]
  rw [e2, List.getElem?_append_left (List.getElem?_eq_some_iff.1 e).1]
  exact e
theorem RowS.drop {W : World} {g o : Nat} {L : List Sym} (h : RowS W g o L) {n : Nat} (hn : n ≤ L.length) : RowS W g (o + n * 6) (L.drop n) := fun j u e => by
  have e2 : flatS L = flatS (L.take n) ++ flatS (L.drop n) := by rw [← flatS_append, List.take_append_drop]
  have hl : (flatS (L.take n)).length = n * 6 := by rw [flatS_length, List.length_take, Nat.min_eq_left hn]
  have := h (n * 6 + j) u (by rw [e2, List.getElem?_append_right (by omega), hl, Nat.add_sub_cancel_left]; exact e)
  rwa [← Nat.add_assoc] at this
theorem RowS.six {W : World} {g o : Nat} {L : List Sym} (h : RowS W g o L) {i : Nat} {x : Sym} (hx : L[i]? = some x) : SixAt W g (o + i * 6) (symC x.kind (strOfNums x.text) x.tk (strOfNums x.tt) (strOfNums x.te) x.place) := by
  intro j hj
  have := h (i * 6 + j) ((symA x).toList.getD j undef) (by rw [flatS_get L i j x hx hj, List.getD_eq_getElem?_getD, List.getElem?_eq_getElem (by rw [symA_length]; omega)]; rfl)
  rw [← Nat.add_assoc] at this
  rw [this]
  match j, hj with
  | 0, _ => rfl
  | 1, _ => rfl
  | 2, _ => rfl
  | 3, _ => rfl
  | 4, _ => rfl
  | 5, _ => rfl

/-- What named tells of good symbols. -/
def NamedC (P : ByteArray → Option ByteArray) (mv : Value) (N : Nat) (w : World) : Prop :=
  ∀ x, GoodS N x → ∀ W, Below w.heap.size w W → Calls Tryz.prog 145 #[.agg (symC x.kind (strOfNums x.text) x.tk (strOfNums x.tt) (strOfNums x.te) x.place), mv] W (WholeOut (namedS P x) W)
theorem NamedC.below {P : ByteArray → Option ByteArray} {mv : Value} {N : Nat} {w u : World} (h : NamedC P mv N w) (k : Below w.heap.size w u) : NamedC P mv N u :=
  fun x hx W hW => h x hx W (k.trans (hW.mono k.size))
theorem named_any (P : ByteArray → Option ByteArray) (mv : Value) (N : Nat) (hN : N ≤ 1000000000) (w : World) (he : LexEnv w) (hm : ∀ W, Below w.heap.size w W → MapS mv P W) (hP : ∀ a b, P a = some b → b.size ≤ 1000000000) : NamedC P mv N w := by
  intro x hx W hW
  have hxt : (strOfNums x.tt).size ≤ 1000000000000 := by rw [strNums_size]; have := hx.ltt; omega
  have heW := he.below hW
  by_cases h1 : x.kind = 1
  · obtain ⟨k1, k2, k3⟩ := hx.iri h1
    have hn : namedS P x = some (1, S x.tt, noneB) := by unfold namedS; rw [if_pos h1]
    rw [hn, h1, k1, k2]
    exact (named_iri (strOfNums x.text) (strOfNums x.tt) ⟨#[]⟩ x.place mv true k3 hxt (by decide) W heW).mono fun e w' h => .yes rfl h.1 h.2
  by_cases h2 : x.kind = 2
  · obtain ⟨k1, k2, k3⟩ := hx.blank h2
    have hn : namedS P x = some (2, S x.tt, noneB) := by unfold namedS; rw [if_neg h1, if_pos h2]
    rw [hn, h2, k1, k2]
    exact (named_blank (strOfNums x.text) (strOfNums x.tt) ⟨#[]⟩ x.place mv true k3 hxt (by decide) W heW).mono fun e w' h => .yes rfl h.1 h.2
  by_cases h7 : x.kind = 7
  · have := named_name P x N h7 hx hN mv W heW (fun U hU => hm U (hW.trans (hU.mono hW.size))) hP
    rw [h7]
    exact this
  · have hn : namedS P x = none := by unfold namedS; rw [if_neg h1, if_neg h2, if_neg h7]
    rw [hn]
    exact (named_other x.kind _ _ _ _ _ mv (by omega) (by omega) (by omega) W).mono fun e w' h => .no (0, ⟨#[]⟩, ⟨#[]⟩) rfl h.1 h.2
theorem namedS_small {P : ByteArray → Option ByteArray} {N : Nat} (hN : N ≤ 1000000000) (hP : ∀ a b, P a = some b → b.size ≤ 1000000000) {x : Sym} (hx : GoodS N x) : ∀ u, namedS P x = some u → u.2.1.size ≤ 1000000000000 ∧ u.2.2 = noneB := by
  intro u hu
  have ht : (S x.tt).size ≤ 1000000000000 := by show (strOfNums x.tt).size ≤ _; rw [strNums_size]; have := hx.ltt; omega
  have hl : (S (localN x.text)).size ≤ 1000000000 := by show (strOfNums (localN x.text)).size ≤ _; rw [strNums_size]; have := localN_len x.text; have := hx.lt; omega
  unfold namedS at hu
  split at hu
  · cases hu; exact ⟨ht, rfl⟩
  · split at hu
    · cases hu; exact ⟨ht, rfl⟩
    · split at hu
      · split at hu
        · cases hu
        · rename_i b hb
          split at hu
          · cases hu
            refine ⟨?_, rfl⟩
            show (b ++ S (localN x.text)).size ≤ _
            rw [ByteArray.size_append]
            have := hP _ b hb
            omega
          · cases hu
      · cases hu

theorem whole_any (P : ByteArray → Option ByteArray) (mv : Value) (N : Nat) (hN : N ≤ 1000000000) (hP : ∀ a b, P a = some b → b.size ≤ 1000000000) (g o cap : Nat) (L : List Sym) (h1 : 1 ≤ L.length) (h3 : L.length ≤ 3) (hcap : L.length ≤ cap) (hg : ∀ x ∈ L, GoodS N x)
    (w : World) (he : LexEnv w) (hn : NamedC P mv N w) (hr : RowS w g o L) :
    Calls Tryz.prog 121 #[.slice (some ⟨g, o, none⟩) L.length cap, mv] w (WholeOut (wholeS P L) w) := by
  have hz : ∀ x ∈ L, ∀ l, l = x.text ∨ l = x.tt → (strOfNums l).size ≤ 1000000000000 := fun x hx l hl => by
    rw [strNums_size]
    rcases hl with rfl | rfl
    · have := (hg x hx).lt; omega
    · have := (hg x hx).ltt; omega
  match L, h1, h3 with
  | [x], _, _ =>
    have s0 := hr.six (i := 0) (x := x) rfl
    rw [Nat.zero_mul, Nat.add_zero] at s0
    have hx := hg x (by simp)
    by_cases hk : x.kind = 3
    · have e : wholeS P [x] = okT (3, S x.text, noneB) := by rw [wholeS, if_pos hk]
      rw [e]
      rw [hk] at s0
      exact whole_1s g o cap hcap _ _ _ _ _ mv (hz x (by simp) _ (.inl rfl)) w he s0
    · have e : wholeS P [x] = namedS P x := by rw [wholeS, if_neg hk]
      rw [e]
      exact whole_1 g o cap hcap x.kind (by omega) _ _ _ _ _ mv _ w s0 (fun W hW => hn x hx W hW)
  | [x, y], _, _ =>
    have s0 := hr.six (i := 0) (x := x) rfl
    have s1 := hr.six (i := 1) (x := y) rfl
    rw [Nat.zero_mul, Nat.add_zero] at s0
    rw [Nat.one_mul] at s1
    by_cases hk : x.kind = 3
    · rw [hk] at s0
      by_cases hk4 : y.kind = 4
      · have e : wholeS P [x, y] = okT (4, S x.text, S y.text) := by rw [wholeS, if_pos ⟨hk, hk4⟩]
        rw [e]
        rw [hk4] at s1
        exact whole_2l g o cap hcap _ _ _ _ _ _ _ _ _ _ mv (hz x (by simp) _ (.inl rfl)) (hz y (by simp) _ (.inl rfl)) w he s0 s1
      · have e : wholeS P [x, y] = none := by rw [wholeS, if_neg (fun h => hk4 h.2)]
        rw [e]
        exact whole_2n g o cap hcap _ _ _ _ _ _ _ _ _ _ y.kind (by omega) mv w s0 s1
    · have e : wholeS P [x, y] = none := by rw [wholeS, if_neg (fun h => hk h.1)]
      rw [e]
      exact whole_n g o 2 cap (Nat.le_refl _) (by decide) hcap x.kind (by omega) _ _ _ _ _ mv w s0
  | [x, y, z], _, _ =>
    have s0 := hr.six (i := 0) (x := x) rfl
    have s1 := hr.six (i := 1) (x := y) rfl
    have s2 := hr.six (i := 2) (x := z) rfl
    rw [Nat.zero_mul, Nat.add_zero] at s0
    rw [Nat.one_mul] at s1
    by_cases hk : x.kind = 3
    · rw [hk] at s0
      have hy := hg y (by simp)
      have hmb : markB y.kind (bs (strOfNums y.text)) (bs ⟨#[94, 94]⟩) = decide (y.kind = 8 ∧ y.text = typeMarkL) := by
        unfold markB
        rw [bs_strOfNums hy.bt, show bs ⟨#[94, 94]⟩ = typeMarkL from rfl, Bool.eq_iff_iff]
        simp only [Bool.and_eq_true, beq_iff_eq, decide_eq_true_eq]
        constructor
        · rintro ⟨h1, h2⟩; exact ⟨by omega, h2⟩
        · rintro ⟨h1, h2⟩; exact ⟨by omega, h2⟩
      have e : wholeS P [x, y, z] = if decide (y.kind = 8 ∧ y.text = typeMarkL) = true then typedR (S x.text) (namedS P z) else none := by
        rw [wholeS]
        by_cases h : y.kind = 8 ∧ y.text = typeMarkL
        · rw [if_pos ⟨hk, h⟩, if_pos (decide_eq_true h)]
        · rw [if_neg (fun k => h k.2), if_neg (by rw [decide_eq_false h]; decide)]
      rw [e]
      exact whole_3 g o cap hcap _ _ _ _ _ _ _ _ _ _ _ _ _ _ _ _ _ mv _ hmb (namedS P z) (namedS_small hN hP (hg z (by simp))) (hz x (by simp) _ (.inl rfl)) w he s0 s1 s2 (fun W hW => hn z (hg z (by simp)) W hW)
    · have e : wholeS P [x, y, z] = none := by rw [wholeS, if_neg (fun h => hk h.1)]
      rw [e]
      exact whole_n g o 3 cap (by decide) (Nat.le_refl _) hcap x.kind (by omega) _ _ _ _ _ mv w s0

/-- The first of the lengths k, k - 1 .. 1. -/
def downS (P : ByteArray → Option ByteArray) (L : List Sym) : Nat → Option (TermD × Nat)
  | 0 => none
  | k + 1 => match tryS P L (k + 1) with
    | some r => some r
    | none => downS P L k
theorem try_long {P : ByteArray → Option ByteArray} {L : List Sym} {n : Nat} (h : L.length < n) : tryS P L n = none := by unfold tryS; rw [if_neg (by omega)]
theorem down_read (P : ByteArray → Option ByteArray) (L : List Sym) : downS P L (min L.length 3) = readS P L := by
  have h3 : downS P L 3 = readS P L := by
    unfold readS
    rw [downS, downS, downS]
    cases tryS P L 3 with
    | some r => rfl
    | none =>
      simp only
      cases tryS P L 2 with
      | some r => rfl
      | none =>
        simp only
        cases tryS P L 1 <;> rfl
  rw [← h3]
  by_cases c3 : 3 ≤ L.length
  · rw [Nat.min_eq_right c3]
  · rw [Nat.min_eq_left (by omega)]
    match hl : L.length, c3 with
    | 0, _ => simp only [downS, try_long (P := P) (show L.length < 0 + 1 by omega), try_long (P := P) (show L.length < 1 + 1 by omega), try_long (P := P) (show L.length < 2 + 1 by omega)]
    | 1, _ =>
      conv => rhs; rw [downS, downS]
      simp only [try_long (P := P) (show L.length < 1 + 1 by omega), try_long (P := P) (show L.length < 2 + 1 by omega)]
    | 2, _ =>
      conv => rhs; rw [downS]
      simp only [try_long (P := P) (show L.length < 2 + 1 by omega)]
    | n + 3, h => omega

/-- What Read answers. -/
def ReadOut (r : Option (TermD × Nat)) (w : World) (e : Ending) (w' : World) : Prop :=
  (match r with
  | some (t, n) => e = .returned (.tuple #[termD t, .int .i64 n, .int .i64 0])
  | none => e = .returned (.tuple #[termD (0, ⟨#[]⟩, ⟨#[]⟩), .int .i64 0, .int .i64 4])) ∧ Below w.heap.size w w'

/-- A slice of symbols, wherever it begins. -/
def SlA (W : World) (v : Value) (L : List Sym) : Prop :=
  (v = .slice none 0 0 ∧ L = []) ∨ ∃ g o cap, v = .slice (some ⟨g, o, none⟩) L.length cap ∧ L.length ≤ cap ∧ cap ≤ maxLen ∧ RowS W g o L
theorem SlA.below {W W' : World} {v : Value} {L : List Sym} (h : SlA W v L) (k : Below W.heap.size W W') : SlA W' v L := by
  rcases h with h | ⟨g, o, cap, h1, h2, h3, h4⟩
  · exact .inl h
  · exact .inr ⟨g, o, cap, h1, h2, h3, h4.below k⟩
theorem SlA.of {W : World} {v : Value} {L : List Sym} (h : SliceS W v L) : SlA W v L := by
  rcases h with h | ⟨g, cap, h1, h2, h3, h4⟩
  · exact .inl h
  · exact .inr ⟨g, 0, cap, h1, h2, h3, fun j u e => by rw [Nat.zero_add]; exact h4 j u e⟩
theorem SlA.nil (W : World) (g o cap : Nat) (hc : cap ≤ maxLen) : SlA W (.slice (some ⟨g, o, none⟩) 0 cap) [] := .inr ⟨g, o, cap, rfl, Nat.zero_le _, hc, fun j u e => by simp [flatS] at e⟩

set_option maxRecDepth 100000 in
set_option maxHeartbeats 8000000 in
theorem read_none (p : Option Addr) (cap : Nat) (mv : Value) (w : World) :
    Calls Tryz.prog 86 #[.slice p 0 cap, mv] w (ReadOut none w) := by
  have hB : Below w.heap.size w (w.alloc (.cells zeroTermC 31)) := below_lex _ _
  have hZ : BlockAt (w.alloc (.cells zeroTermC 31)) w.heap.size zeroTermC 31 := block_new _ _ _
  obtain ⟨W0, hW0⟩ : ∃ W0, W0 = w.alloc (.cells zeroTermC 31) := ⟨_, rfl⟩
  rw [← hW0] at hB hZ
  have k0 := hZ.cell (j := 0) rfl
  have k1 := hZ.cell (j := 1) rfl
  have k2 := hZ.cell (j := 2) rfl
  have kf : ∀ j, W0.frozen? ⟨w.heap.size, j, none⟩ = false := fun j => hZ.free j
  have HB := Lib.hid hB
  have HZ := Lib.hid hZ
  have HW0 := Lib.hid hW0
  clear hB hZ hW0
  go_enter Tryz.func86, Tryz.ntmps86
  go_upto_region 1 with fail
  rw [← HW0.out]
  go_wp2_with fail
  refine wp_loop_rounds 1 ?_
  rw [rounds_succ]
  go_wp2_with fail
  exact bodyPost_ret (results_read rfl _ _ w.heap.size _ _ _ rfl (HZ.out.set3 _ _ _)) rfl ⟨rfl, ((HB.out.setCell (Nat.le_refl _) _).setCell (Nat.le_refl _) _).setCell (Nat.le_refl _) _⟩

set_option maxRecDepth 100000 in
set_option maxHeartbeats 8000000 in
theorem read_some (P : ByteArray → Option ByteArray) (mv : Value) (N : Nat) (hN : N ≤ 1000000000) (hP : ∀ a b, P a = some b → b.size ≤ 1000000000) (g o cap : Nat) (L : List Sym) (hcap : L.length ≤ cap) (hcm : cap ≤ maxLen) (hg : ∀ x ∈ L, GoodS N x)
    (w : World) (he : LexEnv w) (hn : NamedC P mv N w) (hr : RowS w g o L) :
    Calls Tryz.prog 86 #[.slice (some ⟨g, o, none⟩) L.length cap, mv] w (ReadOut (readS P L) w) := by
  have hB : Below w.heap.size w (w.alloc (.cells zeroTermC 31)) := below_lex _ _
  have hZ : BlockAt (w.alloc (.cells zeroTermC 31)) w.heap.size zeroTermC 31 := block_new _ _ _
  obtain ⟨W0, hW0⟩ : ∃ W0, W0 = w.alloc (.cells zeroTermC 31) := ⟨_, rfl⟩
  rw [← hW0] at hB hZ
  have HC : Hid (∀ k, 1 ≤ k → k ≤ 3 → k ≤ L.length → ∀ W, Below w.heap.size w W → Calls Tryz.prog 121 #[.slice (some ⟨g, o, none⟩) k cap, mv] W (WholeOut (wholeS P (L.take k)) W)) := Lib.hid (fun k k1 k3 kl W hW => by
    have hl : (L.take k).length = k := by rw [List.length_take]; omega
    have := whole_any P mv N hN hP g o cap (L.take k) (by omega) (by omega) (by omega) (fun x hx => hg x (List.mem_of_mem_take hx)) W (he.below hW) (hn.below hW) ((hr.below hW).take k)
    rwa [hl] at this)
  have HRd : Hid (readS P L = downS P L (min L.length 3)) := Lib.hid (down_read P L).symm
  have HTr : Hid (∀ k, k ≤ L.length → tryS P L k = (wholeS P (L.take k)).map (fun t => (t, k))) := Lib.hid (fun k hk => by unfold tryS; rw [if_pos hk])
  have HB := Lib.hid hB
  have HZ := Lib.hid hZ
  have HW0 := Lib.hid hW0
  obtain ⟨n, hnl⟩ : ∃ n, n = L.length := ⟨_, rfl⟩
  rw [← hnl] at HC HTr HRd hcap ⊢
  obtain ⟨m, hm⟩ : ∃ m, m = min n 3 := ⟨_, rfl⟩
  have hm3 : m ≤ 3 := by omega
  have hmn : m ≤ n := by omega
  have hmi : min (n : Int) 3 = (m : Int) := by omega
  rw [← hm] at HRd
  obtain ⟨F, hF⟩ : ∃ F, F = ReadOut (readS P L) w := ⟨_, rfl⟩
  have HF := Lib.hid hF
  rw [← hF]
  clear hB hZ hW0 hnl hm hF he hn hr hg hP
  go_enter Tryz.func86, Tryz.ntmps86
  go_wp2_with fail
  rw [← HW0.out]
  go_loopg [7] m (fun gg i wr => ∃ k : Nat, k ≤ m ∧ k ≤ gg ∧ i = .int .i64 k ∧ readS P L = downS P L k ∧ Below w.heap.size w wr ∧ BlockAt wr w.heap.size zeroTermC 31)
  case atStart => exact ⟨m, Nat.le_refl _, Nat.le_refl _, rfl, HRd.out, HB.out, HZ.out⟩
  case round =>
    obtain ⟨k, hk, hgg, rfl, hrd, hBr, hZr⟩ := hrel
    have HRk := Lib.hid hrd
    have HBr := Lib.hid hBr
    have HZr := Lib.hid hZr
    clear hrd hBr hZr
    by_cases h0 : k = 0
    · subst h0
      have hnone : Hid (readS P L = none) := Lib.hid HRk.out
      have k0 := HZr.out.cell (j := 0) rfl
      have k1 := HZr.out.cell (j := 1) rfl
      have k2 := HZr.out.cell (j := 2) rfl
      have kf : ∀ j, wr.frozen? ⟨w.heap.size, j, none⟩ = false := fun j => HZr.out.free j
      go_wp2_with fail
      refine bodyPost_ret (results_read rfl _ _ w.heap.size _ _ _ rfl (HZr.out.set3 _ _ _)) rfl ?_
      rw [HF.out, hnone.out]
      exact ⟨rfl, ((HBr.out.setCell (Nat.le_refl _) _).setCell (Nat.le_refl _) _).setCell (Nat.le_refl _) _⟩
    · have d0 : decide ((0 : Int) < (k : Int)) = true := by simp; omega
      have b0 : (0 : Int) ≤ (k : Int) := by omega
      have b1 : (k : Int) ≤ (n : Int) := by omega
      have b2 : (k : Int) ≤ (cap : Int) := by omega
      have HCk := Lib.hid (HC.out k (by omega) (by omega) (by omega) wr HBr.out)
      have HTk := Lib.hid (HTr.out k (by omega))
      have HDk : Hid (downS P L k = match tryS P L k with | some r => some r | none => downS P L (k - 1)) := Lib.hid (by
        obtain ⟨j, rfl⟩ : ∃ j, k = j + 1 := ⟨k - 1, by omega⟩
        rfl)
      go_upto_region 5 with (go_at_call 121; refine HCk.out.mono ?_; rintro e y ⟨t, b, rfl, hY, hyes, hno⟩)
      have HB1 := Lib.hid (below_next (HBr.out.trans (hY.mono HBr.out.size)) (below_lex y (.cells #[.int .i64 t.1, .string t.2.1, .string t.2.2] 31)))
      have HZ1 := Lib.hid ((HZr.out.kept hY).alloc (.cells #[.int .i64 t.1, .string t.2.1, .string t.2.2] 31))
      have HX1 := Lib.hid (block_new y #[.int .i64 t.1, .string t.2.1, .string t.2.2] 31)
      have HYes := Lib.hid hyes
      have HNo := Lib.hid hno
      clear hY hyes hno HCk
      generalize y.alloc (.cells #[.int .i64 t.1, .string t.2.1, .string t.2.2] 31) = W1 at *
      cases b with
      | true =>
        have hrs : Hid (readS P L = some (t, k)) := Lib.hid (by
          rw [HRk.out, HDk.out, HTk.out]
          cases hw : wholeS P (L.take k) with
          | none => have := HNo.out hw; cases this
          | some u => rw [(HYes.out u hw).2]; rfl)
        have x0 := HX1.out.cell (j := 0) rfl
        have x1 := HX1.out.cell (j := 1) rfl
        have x2 := HX1.out.cell (j := 2) rfl
        have k0 := HZ1.out.cell (j := 0) rfl
        have k1 := HZ1.out.cell (j := 1) rfl
        have k2 := HZ1.out.cell (j := 2) rfl
        have kf : ∀ j, W1.frozen? ⟨w.heap.size, j, none⟩ = false := fun j => HZ1.out.free j
        go_wp2_with fail
        refine bodyPost_ret (results_read rfl _ _ w.heap.size _ _ _ rfl (HZ1.out.set3 _ _ _)) rfl ?_
        rw [HF.out, hrs.out]
        exact ⟨rfl, ((HB1.out.setCell (Nat.le_refl _) _).setCell (Nat.le_refl _) _).setCell (Nat.le_refl _) _⟩
      | false =>
        have hrs : Hid (readS P L = downS P L (k - 1)) := Lib.hid (by
          rw [HRk.out, HDk.out, HTk.out]
          cases hw : wholeS P (L.take k) with
          | none => rfl
          | some u => have := (HYes.out u hw).1; cases this)
        go_wp2_with fail
        go_roundg (k - 1)
        case rel => exact ⟨k - 1, by omega, Nat.le_refl _, by go_num, hrs.out, HB1.out, HZ1.out⟩
        case measure => omega

theorem read_any (P : ByteArray → Option ByteArray) (mv : Value) (N : Nat) (hN : N ≤ 1000000000) (hP : ∀ a b, P a = some b → b.size ≤ 1000000000) (v : Value) (L : List Sym) (hg : ∀ x ∈ L, GoodS N x)
    (w : World) (he : LexEnv w) (hn : NamedC P mv N w) (hv : SlA w v L) :
    Calls Tryz.prog 86 #[v, mv] w (ReadOut (readS P L) w) := by
  rcases hv with ⟨rfl, rfl⟩ | ⟨g, o, cap, rfl, h1, h2, h3⟩
  · exact read_none none 0 mv w
  · exact read_some P mv N hN hP g o cap L h1 h2 hg w he hn h3
end Go.Proofs.YtbcoklbfebmpoaaGreatDoor

/-
  CONTRACT OF THE REFERENCE's resource: exact.
-/

namespace Go.Proofs.YtbcoklbfebmpoaaGreatDoor
open Go.RowKit
open Utf Term Lex
set_option linter.unusedVariables false
set_option linter.unusedSimpArgs false

/-- Prefixes, in a row. -/
def PreRow (W : World) (ptr : Option Addr) (ps : List (ByteArray × ByteArray)) : Prop :=
  ∀ i q, ps[i]? = some q → ∃ g o, ptr = some ⟨g, o, none⟩ ∧ W.cell? ⟨g, o + i * 2, none⟩ = some (.string q.1) ∧ W.cell? ⟨g, o + i * 2 + 1, none⟩ = some (.string q.2)
theorem PreRow.below {W W' : World} {ptr : Option Addr} {ps : List (ByteArray × ByteArray)} (h : PreRow W ptr ps) (k : Below W.heap.size W W') : PreRow W' ptr ps := fun i q e => by
  obtain ⟨g, o, h1, h2, h3⟩ := h i q e
  exact ⟨g, o, h1, cell_kept_b k h2, cell_kept_b k h3⟩
theorem PreRow.nil (W : World) (ptr : Option Addr) : PreRow W ptr [] := fun i q e => by simp at e

end Go.Proofs.YtbcoklbfebmpoaaGreatDoor

/-
  PLAIN MATHEMATICS: which term symbols begin with, in the order in which the reference goes about it.
-/

namespace Go.Proofs.YtbcoklbfebmpoaaGreatDoor
open Go.RowKit
open Utf Term Lex

theorem read_nil (P : ByteArray → Option ByteArray) : readS P [] = none := by
  unfold readS tryS
  simp
end Go.Proofs.YtbcoklbfebmpoaaGreatDoor

/-
  CONTRACT OF THE REFERENCE's Read: exact. Written by tools/genrefread.py.
-/

namespace Go.Proofs.YtbcoklbfebmpoaaGreatDoor
open Go.RowKit
open Utf Term Lex
set_option linter.unusedVariables false
set_option linter.unusedSimpArgs false

/-- What the reference's Read answers. -/
def ReadR (r : Option (TermD × Nat)) (w : World) (e : Ending) (w' : World) : Prop :=
  (match r with
  | some (t, n) => e = .returned (.tuple #[termD t, .int .i64 n])
  | none => e = .returned (.tuple #[termD (0, ⟨#[]⟩, ⟨#[]⟩), .int .i64 0])) ∧ Below w.heap.size w w'
theorem ReadR.yes {r : Option (TermD × Nat)} {t : TermD} {n : Nat} (h : r = some (t, n)) {w W : World} (hB : Below w.heap.size w W) : ReadR r w (.returned (.tuple #[termD t, .int .i64 n])) W := by
  subst h; exact ⟨rfl, hB⟩
theorem ReadR.no {r : Option (TermD × Nat)} (h : r = none) {w W : World} (hB : Below w.heap.size w W) : ReadR r w (.returned (.tuple #[termD (0, ⟨#[]⟩, ⟨#[]⟩), .int .i64 0])) W := by
  subst h; exact ⟨rfl, hB⟩

end Go.Proofs.YtbcoklbfebmpoaaGreatDoor

/-
  A MAP OF STRINGS THAT A CALL MAKES; THE CONTRACT OF prefixes.
-/

namespace Go.Proofs.YtbcoklbfebmpoaaGreatDoor
open Go.RowKit
open Utf Term Lex
open Go.MapKept (Stamped stamped_push stamped_modify IsKey)
set_option linter.unusedVariables false
set_option linter.unusedSimpArgs false

def StrE (x : MapEntry) : Prop := ∃ s v, x.key = .string s ∧ x.val = .string v
theorem same_str (a b : ByteArray) : Instr.sameNow .string (.string a) (.string b) = some (decide (a = b)) := by
  simp only [Instr.sameNow, Option.some.injEq]
  rw [Bool.eq_iff_iff, decide_eq_true_eq, MapKept.bytes_beq]
theorem find_ge (a : ByteArray) : ∀ (l : List MapEntry) (i m : Nat) (v : Value), Instr.findNow .string (.string a) l i = some (some (m, v)) → i ≤ m
  | [], i, m, v, h => by simp [Instr.findNow] at h
  | x :: l, i, m, v, h => by
    unfold Instr.findNow at h
    split at h
    · simp only [Option.some.injEq, Prod.mk.injEq] at h; omega
    · have := find_ge a l (i + 1) m v h; omega
    · cases h
/-- What the entries tell of a key. -/
def TellsM (l : List MapEntry) (i : Nat) (a : ByteArray) (r : Option ByteArray) : Prop :=
  match r with
  | none => Instr.findNow .string (.string a) l i = some none
  | some v => ∃ j, Instr.findNow .string (.string a) l i = some (some (j, .string v))
theorem tells_push (a c : ByteArray) (v : ByteArray) (n : Nat) : ∀ (l : List MapEntry) (i : Nat) (r : Option ByteArray), (∀ x ∈ l, StrE x) → Instr.findNow .string (.string a) l i = some none → TellsM l i c r →
    TellsM (l ++ [{ key := .string a, val := .string v, born := n }]) i c (if a = c then some v else r)
  | [], i, r, _, _, h => by
    have hr : r = none := by
      cases r with
      | none => rfl
      | some u => obtain ⟨j, hj⟩ := h; simp [Instr.findNow] at hj
    subst hr
    by_cases hc : a = c
    · subst hc
      rw [if_pos rfl]
      refine ⟨i, ?_⟩
      simp only [List.nil_append, Instr.findNow, same_str, decide_true]
    · rw [if_neg hc]
      unfold TellsM
      have : decide (c = a) = false := decide_eq_false (fun e => hc e.symm)
      simp only [List.nil_append, Instr.findNow, same_str, this]
  | x :: l, i, r, hs, ha, h => by
    obtain ⟨s, u, hk, hv⟩ := hs x (by simp)
    have hsl : ∀ y ∈ l, StrE y := fun y hy => hs y (by simp [hy])
    rw [Instr.findNow, hk, same_str] at ha
    have has : decide (a = s) = false := by
      cases hd : decide (a = s) with
      | false => rfl
      | true => rw [hd] at ha; simp at ha
    rw [has] at ha
    simp only at ha
    have hne : ¬ a = s := of_decide_eq_false has
    rw [List.cons_append]
    cases hcs : decide (c = s) with
    | true =>
      have e : c = s := of_decide_eq_true hcs
      rw [if_neg (fun q => hne (q.trans e))]
      cases r with
      | none =>
        unfold TellsM at h
        rw [Instr.findNow, hk, same_str, hcs] at h
        simp at h
      | some w =>
        obtain ⟨j, hj⟩ := h
        rw [Instr.findNow, hk, same_str, hcs] at hj
        refine ⟨j, ?_⟩
        rw [Instr.findNow, hk, same_str, hcs]
        exact hj
    | false =>
      have h' : TellsM l (i + 1) c r := by
        cases r with
        | none =>
          unfold TellsM at h ⊢
          rw [Instr.findNow, hk, same_str, hcs] at h
          exact h
        | some w =>
          obtain ⟨j, hj⟩ := h
          rw [Instr.findNow, hk, same_str, hcs] at hj
          exact ⟨j, hj⟩
      have ih := tells_push a c v n l (i + 1) r hsl ha h'
      generalize (if a = c then some v else r) = r' at *
      cases r' with
      | none =>
        unfold TellsM at ih ⊢
        rw [Instr.findNow, hk, same_str, hcs]
        exact ih
      | some w =>
        obtain ⟨j, hj⟩ := ih
        refine ⟨j, ?_⟩
        rw [Instr.findNow, hk, same_str, hcs]
        exact hj
theorem tells_modify (a c v : ByteArray) : ∀ (l : List MapEntry) (i j : Nat) (u : Value) (r : Option ByteArray), (∀ x ∈ l, StrE x) → Instr.findNow .string (.string a) l i = some (some (i + j, u)) → TellsM l i c r →
    TellsM (l.modify j (fun x => { x with key := .string a, val := .string v })) i c (if a = c then some v else r)
  | [], i, j, u, r, _, ha, _ => by simp [Instr.findNow] at ha
  | x :: l, i, j, u, r, hs, ha, h => by
    obtain ⟨s, w, hk, hv⟩ := hs x (by simp)
    have hsl : ∀ y ∈ l, StrE y := fun y hy => hs y (by simp [hy])
    rw [Instr.findNow, hk, same_str] at ha
    cases has : decide (a = s) with
    | true =>
      have e : a = s := of_decide_eq_true has
      subst e
      rw [has] at ha
      simp only [Option.some.injEq, Prod.mk.injEq] at ha
      obtain rfl : j = 0 := by omega
      rw [List.modify_zero_cons]
      by_cases hc : a = c
      · subst hc
        rw [if_pos rfl]
        refine ⟨i, ?_⟩
        simp only [Instr.findNow, same_str, decide_true]
      · rw [if_neg hc]
        have hcs : decide (c = a) = false := decide_eq_false (fun e => hc e.symm)
        cases r with
        | none =>
          unfold TellsM at h ⊢
          rw [Instr.findNow, hk, same_str, hcs] at h
          simp only [Instr.findNow, same_str, hcs]
          exact h
        | some w =>
          obtain ⟨j, hj⟩ := h
          rw [Instr.findNow, hk, same_str, hcs] at hj
          refine ⟨j, ?_⟩
          simp only [Instr.findNow, same_str, hcs]
          exact hj
    | false =>
      rw [has] at ha
      simp only at ha
      have hge := find_ge a l (i + 1) _ _ ha
      obtain ⟨j, rfl⟩ : ∃ k, j = k + 1 := ⟨j - 1, by omega⟩
      rw [List.modify_succ_cons]
      have hne : ¬ a = s := of_decide_eq_false has
      have ha' : Instr.findNow .string (.string a) l (i + 1) = some (some (i + 1 + j, u)) := by rw [ha, show i + 1 + j = i + (j + 1) by omega]
      cases hcs : decide (c = s) with
      | true =>
        have e : c = s := of_decide_eq_true hcs
        rw [if_neg (fun q => hne (q.trans e))]
        cases r with
        | none =>
          unfold TellsM at h
          rw [Instr.findNow, hk, same_str, hcs] at h
          simp at h
        | some w =>
          obtain ⟨j', hj⟩ := h
          rw [Instr.findNow, hk, same_str, hcs] at hj
          refine ⟨j', ?_⟩
          rw [Instr.findNow, hk, same_str, hcs]
          exact hj
      | false =>
        have h' : TellsM l (i + 1) c r := by
          cases r with
          | none =>
            unfold TellsM at h ⊢
            rw [Instr.findNow, hk, same_str, hcs] at h
            exact h
          | some w =>
            obtain ⟨j', hj⟩ := h
            rw [Instr.findNow, hk, same_str, hcs] at hj
            exact ⟨j', hj⟩
        have ih := tells_modify a c v l (i + 1) j u r hsl ha' h'
        generalize (if a = c then some v else r) = r' at *
        cases r' with
        | none =>
          unfold TellsM at ih ⊢
          rw [Instr.findNow, hk, same_str, hcs]
          exact ih
        | some w =>
          obtain ⟨j', hj⟩ := ih
          refine ⟨j', ?_⟩
          rw [Instr.findNow, hk, same_str, hcs]
          exact hj

/-- A block is a map of strings that tells what P tells. -/
def MapB (W : World) (b : Nat) (P : ByteArray → Option ByteArray) : Prop :=
  ∃ es clock, W.heap[b]? = some (.map es clock) ∧ (∀ x ∈ es.toList, StrE x) ∧ ∀ c, TellsM es.toList 0 c (P c)
theorem MapB.keep {W U : World} {b : Nat} {P : ByteArray → Option ByteArray} (h : MapB W b P) (k : Below W.heap.size W U) : MapB U b P := by
  obtain ⟨es, clock, h1, h2, h3⟩ := h
  exact ⟨es, clock, by rw [k.block b (Array.getElem?_eq_some_iff.1 h1).1]; exact h1, h2, h3⟩
theorem MapB.new (W : World) (n : Nat) : MapB (W.alloc (.map #[] n)) W.heap.size (fun _ => none) :=
  ⟨#[], n, heap_alloc_new W _, by simp, fun c => by unfold TellsM; rfl⟩
theorem MapB.update {W : World} {b : Nat} {P : ByteArray → Option ByteArray} (h : MapB W b P) (a v : ByteArray) :
    ∃ ob, (∀ U : World, U.heap = W.heap → (Instr.mapUpdate 41 (.map (some b)) (.string a) (.string v)).run Tryz.prog U = .ok () { U with heap := U.heap.setIfInBounds b ob }) ∧ (∀ U : World, U.heap[b]? = some ob → MapB U b (fun c => if a = c then some v else P c)) ∧ b < W.heap.size := by
  obtain ⟨es, clock, h1, h2, h3⟩ := h
  have hlt := (Array.getElem?_eq_some_iff.1 h1).1
  have h1n : ∀ U : World, U.heap = W.heap → U.heap[b]? = some (.map es clock) := fun U hU => by rw [hU]; exact h1
  have hk : IsKey .string (.string a) := by simp [IsKey]
  have hc : ∀ (U : World) em, (Instr.checkKey em 10000 9 (.string a)).run Tryz.prog U = .ok () U := fun U em => MapKept.run_checkKey Tryz.underlying9 hk em 9999
  have ha := h3 a
  cases hp : P a with
  | none =>
    rw [hp] at ha
    refine ⟨.map (es.push { key := .string a, val := .string v, born := clock }) (clock + 1), fun U hE => ?_, fun U hU => ⟨_, _, hU, ?_, fun c => ?_⟩, hlt⟩
    · simp [Instr.mapUpdate, run_underlying Tryz.underlying41, MapKept.run_getObj_map (h1n U hE), hc, MapKept.run_findKey Tryz.underlying9 ha, MapKept.run_setObj_map _ (h1n U hE), Result.andThen]
    · intro x hx
      simp only [Array.toList_push, List.mem_append, List.mem_singleton] at hx
      rcases hx with hx | rfl
      · exact h2 x hx
      · exact ⟨a, v, rfl, rfl⟩
    · rw [Array.toList_push]
      exact tells_push a c v clock es.toList 0 (P c) h2 ha (h3 c)
  | some u =>
    rw [hp] at ha
    obtain ⟨j, hj⟩ := ha
    obtain ⟨e, he, hek⟩ : ∃ e, es[j]? = some e ∧ e.key = .string a := by
      rcases MapKept.findNow_spec (d := .string) hk es.toList 0 (fun x hx => by obtain ⟨s, w, hk, _⟩ := h2 x hx; rw [hk]; simp [IsKey]) with ⟨h, _⟩ | ⟨j', e, h, he, hk'⟩
      · rw [hj] at h; cases h
      · rw [hj] at h
        simp only [Option.some.injEq, Prod.mk.injEq] at h
        exact ⟨e, by rw [h.1, Nat.zero_add]; simpa using he, hk'⟩
    refine ⟨.map (es.modify j (fun x => { x with key := .string a, val := .string v })) clock, fun U hE => ?_, fun U hU => ⟨_, _, hU, ?_, fun c => ?_⟩, hlt⟩
    · simp [Instr.mapUpdate, run_underlying Tryz.underlying41, MapKept.run_getObj_map (h1n U hE), hc, MapKept.run_findKey Tryz.underlying9 hj, he, hek, MapKept.run_keyThatStays hk, MapKept.run_setObj_map _ (h1n U hE), Result.andThen]
    · intro x hx
      rw [Array.toList_modify] at hx
      obtain ⟨i, hi⟩ := List.getElem?_of_mem hx
      rw [List.getElem?_modify] at hi
      cases hei : es.toList[i]? with
      | none => rw [hei] at hi; simp at hi
      | some y =>
        rw [hei] at hi
        simp only [Option.map_eq_map, Option.map_some, Option.some.injEq] at hi
        split at hi
        · subst hi; exact ⟨a, v, rfl, rfl⟩
        · subst hi; exact h2 _ (List.mem_of_getElem? hei)
    · rw [Array.toList_modify]
      exact tells_modify a c v es.toList 0 j _ (P c) h2 (by rw [hj, Nat.zero_add]) (h3 c)
theorem MapB.tells {W : World} {b : Nat} {P : ByteArray → Option ByteArray} (h : MapB W b P) : MapS (.map (some b)) P W := by
  intro a
  obtain ⟨es, clock, h1, h2, h3⟩ := h
  have hc : ∀ em, (Instr.checkKey em 10000 9 (.string a)).run Tryz.prog W = .ok () W := fun em => MapKept.run_checkKey Tryz.underlying9 (by simp [IsKey]) em 9999
  have hz : (zeroValue 9).run Tryz.prog W = .ok (.string ⟨#[]⟩) W := by kernel_rfl
  have ha := h3 a
  cases hp : P a with
  | none =>
    rw [hp] at ha
    simp [Instr.lookup, run_underlying Tryz.underlying41, MapKept.run_getObj_map h1, hc, MapKept.run_findKey Tryz.underlying9 ha, hz, Result.andThen]
  | some u =>
    rw [hp] at ha
    obtain ⟨j, hj⟩ := ha
    simp [Instr.lookup, run_underlying Tryz.underlying41, MapKept.run_getObj_map h1, hc, MapKept.run_findKey Tryz.underlying9 hj, Result.andThen]

end Go.Proofs.YtbcoklbfebmpoaaGreatDoor

/-
  CONTRACTS OF strings.CutSuffix (of a colon) AND WHAT IT CALLS.
-/

namespace Go.Proofs.YtbcoklbfebmpoaaGreatDoor
open Go.RowKit
open Utf Term Lex
set_option linter.unusedVariables false
set_option linter.unusedSimpArgs false

theorem colon_eq (X : ByteArray) : (X.toList == [58]) = decide (bs X = [58]) := by
  rw [Bool.eq_iff_iff, beq_iff_eq, decide_eq_true_eq, ByteArray.toList_eq]
  unfold bs
  constructor
  · intro h
    rw [h]
    rfl
  · intro h
    match hx : X.data.toList, h with
    | [], h => cases h
    | [c], h =>
      simp only [List.map_cons, List.map_nil, List.cons.injEq, and_true] at h
      have : c.toNat = (58 : UInt8).toNat := by
        show c.toNat = 58
        omega
      rw [UInt8.toNat_inj.1 this]
    | c :: d :: r, h => simp at h
theorem ends_last {l : List Int} {n : Nat} (h : l.length = n + 1) : endsC l = decide (l.drop n = [58]) := by
  unfold endsC
  have hn : n < l.length := by omega
  have e : l.getLast? = some l[n] := by rw [List.getLast?_eq_getElem?, h, Nat.add_sub_cancel]; exact List.getElem?_eq_getElem hn
  have d : l.drop n = [l[n]] := by
    rw [List.drop_eq_getElem_cons hn, List.drop_eq_nil_of_le (by omega)]
  rw [e, d, Bool.eq_iff_iff, decide_eq_true_eq, decide_eq_true_eq]
  simp
theorem drop_last {l : List Int} {n : Nat} (h : l.length = n + 1) : l.take n = l.dropLast := by
  rw [List.dropLast_eq_take, h, Nat.add_sub_cancel]
theorem bs_size (s : ByteArray) : (bs s).length = s.size := bs_length s
set_option maxRecDepth 100000 in
set_option maxHeartbeats 2000000 in
theorem hasSuffix_colon (s : ByteArray) (hs : s.size ≤ 1000000000) (w : World) : Calls Tryz.prog 157 #[.string s, .string ⟨#[58]⟩] w fun e w' => e = .returned (.bool (endsC (bs s))) ∧ w = w' := by
  obtain ⟨E, hE⟩ : ∃ E, E = endsC (bs s) := ⟨_, rfl⟩
  rw [← hE]
  by_cases h0 : s.size = 0
  · have hE' : E = false := by
      rw [hE]
      have : bs s = [] := List.eq_nil_of_length_eq_zero (by rw [bs_size]; exact h0)
      rw [this]; rfl
    subst hE'
    clear hE
    go_enter Tryz.func157, Tryz.ntmps157
    go_wp2
    go_ret
    exact ⟨rfl, rfl⟩
  · obtain ⟨n, hn⟩ : ∃ n, s.size = n + 1 := ⟨s.size - 1, by omega⟩
    have i1 : ((n : Int) + 1) - 1 = (n : Int) := by omega
    have i2 : ((n + 1 : Nat) : Int) = (n : Int) + 1 := by omega
    have i3 : (1 : Int) ≤ (n : Int) + 1 := by omega
    have i4 : (0 : Int) ≤ (n : Int) := by omega
    have i5 : (n : Int) ≤ (n : Int) + 1 := by omega
    have HE := Lib.hid hE
    have HN := Lib.hid hn
    have hu : n < 1000000000 := by omega
    clear hE h0 hs
    go_enter Tryz.func157, Tryz.ntmps157
    go_wp2
    go_ret
    refine ⟨?_, rfl⟩
    have h1 : bs (s.extract n (n + 1)) = (bs s).drop n := by
      rw [← HN.out]
      exact bs_from s n
    rw [colon_eq, h1, ← ends_last (by rw [bs_size]; exact HN.out), ← HE.out]
    rfl
/-- What CutSuffix answers. -/
def cutE (s : ByteArray) : Ending := if endsC (bs s) = true then .returned (.tuple #[.string (S (bs s).dropLast), .bool true]) else .returned (.tuple #[.string s, .bool false])
set_option maxRecDepth 100000 in
set_option maxHeartbeats 2000000 in
theorem cutSuffixIn_colon (s : ByteArray) (hs : s.size ≤ 1000000000) (w : World) : Calls Tryz.prog 144 #[.string s, .string ⟨#[58]⟩] w fun e w' => e = cutE s ∧ w = w' := by
  have HC := hasSuffix_colon s hs w
  unfold cutE
  cases hE : endsC (bs s) with
  | false =>
    rw [hE] at HC
    have HC := Lib.hid HC
    clear hE
    go_enter Tryz.func144, Tryz.ntmps144
    go_wp2_with (go_at_call 157; refine HC.out.mono ?_; rintro e w' ⟨rfl, rfl⟩)
    go_ret2
    exact ⟨rfl, rfl⟩
  | true =>
    rw [hE] at HC
    have HC := Lib.hid HC
    have h0 : s.size ≠ 0 := by
      intro h0
      have : bs s = [] := List.eq_nil_of_length_eq_zero (by rw [bs_size]; exact h0)
      rw [this] at hE
      cases hE
    obtain ⟨n, hn⟩ : ∃ n, s.size = n + 1 := ⟨s.size - 1, by omega⟩
    have i1 : ((n : Int) + 1) - 1 = (n : Int) := by omega
    have i2 : ((n + 1 : Nat) : Int) = (n : Int) + 1 := by omega
    have i3 : (1 : Int) ≤ (n : Int) + 1 := by omega
    have i4 : (0 : Int) ≤ (n : Int) := by omega
    have i5 : (n : Int) ≤ (n : Int) + 1 := by omega
    have HN := Lib.hid hn
    have hu : n < 1000000000 := by omega
    have HX : Hid (S (bs s).dropLast = s.extract 0 n) := Lib.hid (by
      have h1 : bs (s.extract 0 n) = (bs s).dropLast := by rw [bs_extract, Nat.sub_zero, List.drop_zero]; exact drop_last (by rw [bs_size]; exact hn)
      rw [← h1]
      exact bs_inj (bs_strOfNums (bs_byte _)))
    clear hE h0 hs
    go_enter Tryz.func144, Tryz.ntmps144
    go_wp2_with (go_at_call 157; refine HC.out.mono ?_; rintro e w' ⟨rfl, rfl⟩)
    go_ret2
    rw [HX.out]
    exact ⟨rfl, rfl⟩
set_option maxRecDepth 100000 in
theorem cutSuffix_colon (s : ByteArray) (hs : s.size ≤ 1000000000) (w : World) : Calls Tryz.prog 117 #[.string s, .string ⟨#[58]⟩] w fun e w' => e = cutE s ∧ w = w' := by
  have HC := cutSuffixIn_colon s hs w
  obtain ⟨x, b, hx⟩ : ∃ x b, cutE s = .returned (.tuple #[.string x, .bool b]) := by
    unfold cutE
    split <;> exact ⟨_, _, rfl⟩
  rw [hx] at HC ⊢
  have HC := Lib.hid HC
  clear hx hs
  go_enter Tryz.func117, Tryz.ntmps117
  go_wp2_with (go_at_call 144; refine HC.out.mono ?_; rintro e w' ⟨rfl, rfl⟩)
  go_ret2
  exact ⟨rfl, rfl⟩
end Go.Proofs.YtbcoklbfebmpoaaGreatDoor

