/-
  PLAIN MATHEMATICS: unlike terms have unlike texts, and none with a blank behind it begins another one's; so have unlike triples.
-/
import Derived.Test.YtdcfjopijblndaaDoorTripleText
import Derived.Test.YtdcfjopijblndaaDoorTagMath
namespace Go.Proofs.YtdcfjopijblndaaDoor
open Utf Term
set_option linter.unusedVariables false
set_option linter.unusedSimpArgs false

theorem cut_stop {s : Int} {r r' : List Int} : ∀ {l l' : List Int}, s ∉ l → s ∉ l' → l ++ s :: r <+: l' ++ s :: r' → l = l' ∧ r <+: r'
  | [], [], _, _, h => ⟨rfl, (List.cons_prefix_cons.1 h).2⟩
  | [], d :: l', _, h2, h => by
    have := (List.cons_prefix_cons.1 h).1
    subst this
    exact absurd (List.mem_cons_self) h2
  | c :: l, [], h1, _, h => by
    have := (List.cons_prefix_cons.1 h).1
    subst this
    exact absurd (List.mem_cons_self) h1
  | c :: l, d :: l', h1, h2, h => by
    obtain ⟨e, h⟩ := List.cons_prefix_cons.1 h
    obtain ⟨e2, h⟩ := cut_stop (fun h => h1 (List.mem_cons_of_mem _ h)) (fun h => h2 (List.mem_cons_of_mem _ h)) h
    exact ⟨by rw [e, e2], h⟩

def un2 (e : Int) : Int := if e = 98 then 8 else if e = 116 then 9 else if e = 110 then 10 else if e = 102 then 12 else if e = 114 then 13 else e
def unhex (n : Int) : Int := if n ≤ 57 then n - 48 else n - 55
/-- What stands for a byte is one byte, two, or six; and which tells the byte. -/
def formB (c : Int) : List Int → Bool
  | [x] => decide (x = c) && decide (x ≠ 92) && decide (x ≠ 34)
  | [a, e] => decide (a = 92) && decide (e ≠ 117) && decide (un2 e = c)
  | [a, b, x, y, h, g] => decide (a = 92) && decide (b = 117) && decide (x = 48) && decide (y = 48) && decide (unhex h * 16 + unhex g = c)
  | _ => false
theorem form_all : ∀ c : Fin 256, formB (c.val : Int) (shown (c.val : Int)) = true := by decide +kernel
theorem form_of {c : Int} (h : IsByte c) : shown c = [c] ∧ c ≠ 92 ∧ c ≠ 34 ∨ (∃ e, shown c = [92, e] ∧ e ≠ 117 ∧ un2 e = c) ∨ ∃ p q, shown c = [92, 117, 48, 48, p, q] ∧ unhex p * 16 + unhex q = c := by
  have h1 := form_all ⟨c.toNat, by have := h.2; have := h.1; omega⟩
  have e : ((c.toNat : Nat) : Int) = c := by have := h.1; omega
  simp only [e] at h1
  revert h1
  generalize shown c = l
  intro h1
  match l with
  | [] => cases h1
  | [x] => simp [formB] at h1; obtain ⟨⟨rfl, h2⟩, h3⟩ := h1; exact .inl ⟨rfl, h2, h3⟩
  | [a, e] => simp [formB] at h1; obtain ⟨⟨rfl, h2⟩, h3⟩ := h1; exact .inr (.inl ⟨e, rfl, h2, h3⟩)
  | [_, _, _] => cases h1
  | [_, _, _, _] => cases h1
  | [_, _, _, _, _] => cases h1
  | [a, b, x, y, p, q] => simp [formB] at h1; obtain ⟨⟨⟨⟨rfl, rfl⟩, rfl⟩, rfl⟩, h3⟩ := h1; exact .inr (.inr ⟨p, q, rfl, h3⟩)
  | _ :: _ :: _ :: _ :: _ :: _ :: _ :: _ => cases h1

theorem shown_cut {c d : Int} (hc : IsByte c) (hd : IsByte d) {p q : List Int} (h : shown c ++ p <+: shown d ++ q) : c = d ∧ p <+: q := by
  rcases form_of hc with ⟨e1, n1, m1⟩ | ⟨e, e1, n1, m1⟩ | ⟨x, y, e1, m1⟩ <;> rcases form_of hd with ⟨e2, n2, m2⟩ | ⟨e', e2, n2, m2⟩ | ⟨x', y', e2, m2⟩ <;> rw [e1, e2] at h <;> simp only [List.cons_append, List.nil_append, List.cons_prefix_cons] at h
  · exact h
  · exact absurd h.1 n1
  · exact absurd h.1 n1
  · exact absurd h.1.symm n2
  · obtain ⟨_, rfl, h⟩ := h; exact ⟨m1.symm.trans m2, h⟩
  · exact absurd h.2.1 n1
  · exact absurd h.1.symm n2
  · exact absurd h.2.1.symm n2
  · obtain ⟨_, _, _, _, rfl, rfl, h⟩ := h; exact ⟨m1.symm.trans m2, h⟩
theorem shown_not34 {d : Int} (hd : IsByte d) : ∃ x l, shown d = x :: l ∧ x ≠ 34 := by
  rcases form_of hd with ⟨e2, n2, m2⟩ | ⟨e', e2, n2, m2⟩ | ⟨x', y', e2, m2⟩
  · exact ⟨_, _, e2, m2⟩
  · exact ⟨_, _, e2, by decide⟩
  · exact ⟨_, _, e2, by decide⟩

theorem showns_cut {r r' : List Int} : ∀ {l l' : List Int}, AllB l → AllB l' → l.flatMap shown ++ 34 :: r <+: l'.flatMap shown ++ 34 :: r' → l = l' ∧ r <+: r'
  | [], [], _, _, h => ⟨rfl, (List.cons_prefix_cons.1 h).2⟩
  | [], d :: l', _, h2, h => by
    obtain ⟨x, k, e, hx⟩ := shown_not34 (h2 d (by simp))
    rw [List.flatMap_cons, e] at h
    exact absurd (List.cons_prefix_cons.1 h).1.symm hx
  | c :: l, [], h1, _, h => by
    obtain ⟨x, k, e, hx⟩ := shown_not34 (h1 c (by simp))
    rw [List.flatMap_cons, e] at h
    exact absurd (List.cons_prefix_cons.1 h).1 hx
  | c :: l, d :: l', h1, h2, h => by
    rw [List.flatMap_cons, List.flatMap_cons, List.append_assoc, List.append_assoc] at h
    obtain ⟨e1, k1⟩ := shown_cut (h1 c (by simp)) (h2 d (by simp)) h
    obtain ⟨e2, k2⟩ := showns_cut (fun x hx => h1 x (List.mem_cons_of_mem _ hx)) (fun x hx => h2 x (List.mem_cons_of_mem _ hx)) k1
    exact ⟨by rw [e1, e2], k2⟩
theorem quote_cut {l l' r r' : List Int} (hl : AllB l) (hl' : AllB l') (h : quoteL l ++ r <+: quoteL l' ++ r') : l = l' ∧ r <+: r' := by
  unfold quoteL at h
  simp only [List.cons_append, List.append_assoc, List.nil_append, List.cons_prefix_cons] at h
  exact showns_cut hl hl' h.2

theorem iri_no62 {l : List Int} (h : isIRIB l = true) : 62 ∉ l := by
  unfold isIRIB at h
  simp only [Bool.and_eq_true, decide_eq_true_eq] at h
  rw [eachB_eq iriC_high (by omega)] at h
  simp only [Bool.and_eq_true, List.all_eq_true] at h
  intro hm
  have := h.2.2 62 hm
  revert this; decide
theorem blank_no32 {l : List Int} (h : isBlankB l = true) : 32 ∉ l := by
  unfold isBlankB at h
  simp only [Bool.and_eq_true, decide_eq_true_eq] at h
  rw [eachB_eq letterDigit_high (by omega)] at h
  simp only [Bool.and_eq_true, List.all_eq_true] at h
  intro hm
  have := h.2.2 32 hm
  revert this; decide
theorem scan_no32 : ∀ (l : List Int) (f p : Bool), scan f p l = true → 32 ∉ l
  | [], _, _, _ => by simp
  | c :: l, f, p, h => by
    unfold scan at h
    simp only [Bool.and_eq_true] at h
    intro hm
    rcases List.mem_cons.1 hm with e | hm
    · subst e
      have := h.1
      unfold stepOK at this
      cases f <;> cases p <;> revert this <;> decide
    · exact scan_no32 l _ _ h.2 hm
theorem tag_no32 {x : ByteArray} (h : isTagS x = true) : 32 ∉ bs x := by
  have h1 := h
  unfold isTagS at h1
  simp only [Bool.and_eq_true, decide_eq_true_eq] at h1
  rw [isTagS_eq x (by omega)] at h
  unfold tagL at h
  simp only [Bool.and_eq_true] at h
  exact scan_no32 _ _ _ h.2.2

theorem empty_extra {x y : ByteArray} (h : noExtra x = true) (h' : noExtra y = true) : x = y := by
  unfold noExtra at h h'
  rw [empty_of x (by simpa using h), empty_of y (by simpa using h')]

theorem text_form {a : TermD} (h : mayD a = true) :
    (a.1 = 1 ∧ noExtra a.2.2 = true ∧ 62 ∉ bs a.2.1 ∧ textD a = 60 :: (bs a.2.1 ++ [62])) ∨
    (a.1 = 2 ∧ noExtra a.2.2 = true ∧ 32 ∉ bs a.2.1 ∧ textD a = 95 :: 58 :: bs a.2.1) ∨
    (a.1 = 3 ∧ noExtra a.2.2 = true ∧ textD a = quoteL (bs a.2.1)) ∨
    (a.1 = 4 ∧ 32 ∉ bs a.2.2 ∧ textD a = quoteL (bs a.2.1) ++ 64 :: bs a.2.2) ∨
    (a.1 = 5 ∧ 62 ∉ bs a.2.2 ∧ textD a = quoteL (bs a.2.1) ++ 94 :: 94 :: 60 :: (bs a.2.2 ++ [62])) := by
  obtain ⟨k, t, x⟩ := a
  unfold mayD mayS at h
  unfold textD textL
  simp only at h ⊢
  by_cases h1 : k = 1
  · subst h1
    rw [if_pos rfl, Bool.and_eq_true] at h
    exact .inl ⟨rfl, h.1, iri_no62 h.2, by rw [if_pos rfl]⟩
  rw [if_neg h1] at h
  by_cases h2 : k = 2
  · subst h2
    rw [if_pos rfl, Bool.and_eq_true] at h
    exact .inr (.inl ⟨rfl, h.1, blank_no32 h.2, by rw [if_neg (by decide), if_pos rfl]⟩)
  rw [if_neg h2] at h
  by_cases h3 : k = 3
  · subst h3
    rw [if_pos rfl, Bool.and_eq_true] at h
    exact .inr (.inr (.inl ⟨rfl, h.1, by rw [if_neg (by decide), if_neg (by decide), if_neg (by decide), if_neg (by decide)]⟩))
  rw [if_neg h3] at h
  by_cases h4 : k = 4
  · subst h4
    rw [if_pos rfl, Bool.and_eq_true] at h
    exact .inr (.inr (.inr (.inl ⟨rfl, tag_no32 h.1, by rw [if_neg (by decide), if_neg (by decide), if_pos rfl]⟩)))
  rw [if_neg h4] at h
  by_cases h5 : k = 5
  · subst h5
    rw [if_pos rfl, Bool.and_eq_true] at h
    have h6 := h.1
    unfold isTypeB at h6
    rw [Bool.and_eq_true] at h6
    exact .inr (.inr (.inr (.inr ⟨rfl, iri_no62 h6.2, by rw [if_neg (by decide), if_neg (by decide), if_neg (by decide), if_pos rfl]⟩)))
  rw [if_neg h5] at h
  cases h

theorem bs_eq {s t : ByteArray} (h : bs s = bs t) : s = t := bs_inj h
theorem quote_head (l : List Int) : ∃ t, quoteL l = 34 :: t := ⟨_, rfl⟩

/-- A term's text with a blank behind it tells the term, and where it ends. -/
theorem text_cut {a b : TermD} (ha : mayD a = true) (hb : mayD b = true) {r r' : List Int} (h : textD a ++ 32 :: r <+: textD b ++ 32 :: r') : a = b ∧ r <+: r' := by
  have fa := text_form ha
  have fb := text_form hb
  generalize textD a = A at *
  generalize textD b = B at *
  clear ha hb
  obtain ⟨k, t, x⟩ := a
  obtain ⟨k', t', x'⟩ := b
  simp only at fa fb
  have hB : ∀ s : ByteArray, AllB (bs s) := fun s => bs_byte s
  obtain ⟨q, hq⟩ := quote_head (bs t)
  obtain ⟨q', hq'⟩ := quote_head (bs t')
  rcases fa with ⟨rfl, e, n, rfl⟩ | ⟨rfl, e, n, rfl⟩ | ⟨rfl, e, rfl⟩ | ⟨rfl, n, rfl⟩ | ⟨rfl, n, rfl⟩
  · rcases fb with ⟨rfl, e', n', rfl⟩ | ⟨rfl, e', n', rfl⟩ | ⟨rfl, e', rfl⟩ | ⟨rfl, n', rfl⟩ | ⟨rfl, n', rfl⟩
    · simp only [List.cons_append, List.append_assoc, List.nil_append, List.cons_prefix_cons] at h
      obtain ⟨h1, h2⟩ := cut_stop n n' h.2
      rw [bs_eq h1, empty_extra e e']
      exact ⟨rfl, (List.cons_prefix_cons.1 h2).2⟩
    · exact absurd (List.cons_prefix_cons.1 h).1 (by decide)
    · rw [hq'] at h; exact absurd (List.cons_prefix_cons.1 h).1 (by decide)
    · rw [hq'] at h; exact absurd (List.cons_prefix_cons.1 h).1 (by decide)
    · rw [hq'] at h; exact absurd (List.cons_prefix_cons.1 h).1 (by decide)
  · rcases fb with ⟨rfl, e', n', rfl⟩ | ⟨rfl, e', n', rfl⟩ | ⟨rfl, e', rfl⟩ | ⟨rfl, n', rfl⟩ | ⟨rfl, n', rfl⟩
    · exact absurd (List.cons_prefix_cons.1 h).1 (by decide)
    · simp only [List.cons_append, List.append_assoc, List.nil_append, List.cons_prefix_cons] at h
      obtain ⟨h1, h2⟩ := cut_stop n n' h.2.2
      rw [bs_eq h1, empty_extra e e']
      exact ⟨rfl, h2⟩
    · rw [hq'] at h; exact absurd (List.cons_prefix_cons.1 h).1 (by decide)
    · rw [hq'] at h; exact absurd (List.cons_prefix_cons.1 h).1 (by decide)
    · rw [hq'] at h; exact absurd (List.cons_prefix_cons.1 h).1 (by decide)
  · rcases fb with ⟨rfl, e', n', rfl⟩ | ⟨rfl, e', n', rfl⟩ | ⟨rfl, e', rfl⟩ | ⟨rfl, n', rfl⟩ | ⟨rfl, n', rfl⟩
    · rw [hq] at h; exact absurd (List.cons_prefix_cons.1 h).1 (by decide)
    · rw [hq] at h; exact absurd (List.cons_prefix_cons.1 h).1 (by decide)
    · obtain ⟨h1, h2⟩ := quote_cut (hB _) (hB _) h
      rw [bs_eq h1, empty_extra e e']
      exact ⟨rfl, (List.cons_prefix_cons.1 h2).2⟩
    · rw [List.append_assoc] at h
      obtain ⟨h1, h2⟩ := quote_cut (hB _) (hB _) h
      exact absurd (List.cons_prefix_cons.1 h2).1 (by decide)
    · rw [List.append_assoc] at h
      obtain ⟨h1, h2⟩ := quote_cut (hB _) (hB _) h
      exact absurd (List.cons_prefix_cons.1 h2).1 (by decide)
  · rcases fb with ⟨rfl, e', n', rfl⟩ | ⟨rfl, e', n', rfl⟩ | ⟨rfl, e', rfl⟩ | ⟨rfl, n', rfl⟩ | ⟨rfl, n', rfl⟩
    · rw [hq] at h; exact absurd (List.cons_prefix_cons.1 h).1 (by decide)
    · rw [hq] at h; exact absurd (List.cons_prefix_cons.1 h).1 (by decide)
    · rw [List.append_assoc] at h
      obtain ⟨h1, h2⟩ := quote_cut (hB _) (hB _) h
      exact absurd (List.cons_prefix_cons.1 h2).1 (by decide)
    · rw [List.append_assoc, List.append_assoc] at h
      obtain ⟨h1, h2⟩ := quote_cut (hB _) (hB _) h
      obtain ⟨h3, h4⟩ := cut_stop n n' (List.cons_prefix_cons.1 h2).2
      rw [bs_eq h1, bs_eq h3]
      exact ⟨rfl, h4⟩
    · rw [List.append_assoc, List.append_assoc] at h
      obtain ⟨h1, h2⟩ := quote_cut (hB _) (hB _) h
      exact absurd (List.cons_prefix_cons.1 h2).1 (by decide)
  · rcases fb with ⟨rfl, e', n', rfl⟩ | ⟨rfl, e', n', rfl⟩ | ⟨rfl, e', rfl⟩ | ⟨rfl, n', rfl⟩ | ⟨rfl, n', rfl⟩
    · rw [hq] at h; exact absurd (List.cons_prefix_cons.1 h).1 (by decide)
    · rw [hq] at h; exact absurd (List.cons_prefix_cons.1 h).1 (by decide)
    · rw [List.append_assoc] at h
      obtain ⟨h1, h2⟩ := quote_cut (hB _) (hB _) h
      exact absurd (List.cons_prefix_cons.1 h2).1 (by decide)
    · rw [List.append_assoc, List.append_assoc] at h
      obtain ⟨h1, h2⟩ := quote_cut (hB _) (hB _) h
      exact absurd (List.cons_prefix_cons.1 h2).1 (by decide)
    · rw [List.append_assoc, List.append_assoc] at h
      obtain ⟨h1, h2⟩ := quote_cut (hB _) (hB _) h
      simp only [List.cons_append, List.append_assoc, List.nil_append, List.cons_prefix_cons] at h2
      obtain ⟨h3, h4⟩ := cut_stop n n' h2.2.2.2
      rw [bs_eq h1, bs_eq h3]
      exact ⟨rfl, (List.cons_prefix_cons.1 h4).2⟩

theorem text_begins {a b : TermD} (ha : mayD a = true) (hb : mayD b = true) : textD a ++ [32] <+: textD b ++ [32] ↔ a = b :=
  ⟨fun h => (text_cut ha hb h).1, fun h => by rw [h]; exact List.prefix_refl _⟩
theorem text_inj {a b : TermD} (ha : mayD a = true) (hb : mayD b = true) : textD a = textD b ↔ a = b :=
  ⟨fun h => (text_begins ha hb).1 (by rw [h]; exact List.prefix_refl _), fun h => by rw [h]⟩
def followD' (a b c : TermD) : Bool := mayD a && mayD b && mayD c
theorem triple_inj {a b c a' b' c' : TermD} (h : followD' a b c = true) (h' : followD' a' b' c' = true) : tripleL a b c = tripleL a' b' c' ↔ a = a' ∧ b = b' ∧ c = c' := by
  unfold followD' at h h'
  simp only [Bool.and_eq_true] at h h'
  constructor
  · intro e
    have e1 : tripleL a b c <+: tripleL a' b' c' := by rw [e]; exact List.prefix_refl _
    unfold tripleL at e1
    obtain ⟨ea, e2⟩ := text_cut h.1.1 h'.1.1 e1
    obtain ⟨eb, e3⟩ := text_cut h.1.2 h'.1.2 e2
    obtain ⟨ec, _⟩ := text_cut h.2 h'.2 e3
    exact ⟨ea, eb, ec⟩
  · rintro ⟨rfl, rfl, rfl⟩; rfl
end Go.Proofs.YtdcfjopijblndaaDoor
