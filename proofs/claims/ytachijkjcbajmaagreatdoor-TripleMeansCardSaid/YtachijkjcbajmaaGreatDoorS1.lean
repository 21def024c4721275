/-
  WHAT THE PROOF STANDS ON, a part of it: NtPure, NtPure2, NtPure3, NtSize, NtSame, NtMeans.
-/
import Derived.Test.YtachijkjcbajmaaGreatDoorR41
/-
  PLAIN MATHEMATICS: the text of triples is a document of them.
-/

namespace Go.Proofs.YtachijkjcbajmaaGreatDoor
open Go.RowKit
open Utf Term Lex
set_option linter.unusedVariables false

/-- A symbol that goes with no string in front of it. -/
def NoTail (y : Sym) : Prop := y.kind ≠ 4 ∧ ¬ (y.kind = 8 ∧ y.text = typeMarkL)
def HeadOK (R : List Sym) : Prop := ∀ y r, R = y :: r → NoTail y
theorem try_one {L : List Sym} {x : Sym} {R : List Sym} (h : L = x :: R) : tryS noP L 1 = (wholeS noP [x]).map (fun t => (t, 1)) := by
  subst h
  unfold tryS
  rw [if_pos (by simp)]
  rfl
theorem read_1 {x : Sym} {R : List Sym} {t : TermD} (hx : x.kind ≠ 3) (h : namedS noP x = some t) : readS noP (x :: R) = some (t, 1) := by
  have h3 : tryS noP (x :: R) 3 = none := by
    unfold tryS
    match R with
    | [] => rw [if_neg (by simp)]
    | [y] => rw [if_neg (by simp)]
    | y :: z :: r =>
      rw [if_pos (by simp)]
      show (wholeS noP [x, y, z]).map _ = none
      rw [wholeS, if_neg (fun h => hx h.1)]
      rfl
  have h2 : tryS noP (x :: R) 2 = none := by
    unfold tryS
    match R with
    | [] => rw [if_neg (by simp)]
    | y :: r =>
      rw [if_pos (by simp)]
      show (wholeS noP [x, y]).map _ = none
      rw [wholeS, if_neg (fun h => hx h.1)]
      rfl
  unfold readS
  rw [h3, h2]
  simp only
  rw [try_one rfl, wholeS, if_neg hx, h]
  rfl
theorem read_1s {x : Sym} {R : List Sym} {t : TermD} (hx : x.kind = 3) (hR : HeadOK R) (h : okT (3, S x.text, noneB) = some t) : readS noP (x :: R) = some (t, 1) := by
  have h3 : tryS noP (x :: R) 3 = none := by
    unfold tryS
    match R, hR with
    | [], _ => rw [if_neg (by simp)]
    | [y], _ => rw [if_neg (by simp)]
    | y :: z :: r, hR =>
      rw [if_pos (by simp)]
      show (wholeS noP [x, y, z]).map _ = none
      rw [wholeS, if_neg (fun h => (hR y _ rfl).2 h.2)]
      rfl
  have h2 : tryS noP (x :: R) 2 = none := by
    unfold tryS
    match R, hR with
    | [], _ => rw [if_neg (by simp)]
    | y :: r, hR =>
      rw [if_pos (by simp)]
      show (wholeS noP [x, y]).map _ = none
      rw [wholeS, if_neg (fun h => (hR y _ rfl).1 h.2)]
      rfl
  unfold readS
  rw [h3, h2]
  simp only
  rw [try_one rfl, wholeS, if_pos hx, h]
  rfl
theorem read_2 {x y : Sym} {R : List Sym} {t : TermD} (hx : x.kind = 3) (hy : y.kind = 4) (h : okT (4, S x.text, S y.text) = some t) : readS noP (x :: y :: R) = some (t, 2) := by
  have h3 : tryS noP (x :: y :: R) 3 = none := by
    unfold tryS
    match R with
    | [] => rw [if_neg (by simp)]
    | z :: r =>
      rw [if_pos (by simp)]
      show (wholeS noP [x, y, z]).map _ = none
      rw [wholeS, if_neg (fun h => by have := h.2.1; omega)]
      rfl
  have h2 : tryS noP (x :: y :: R) 2 = some (t, 2) := by
    unfold tryS
    rw [if_pos (by simp)]
    show (wholeS noP [x, y]).map _ = _
    rw [wholeS, if_pos ⟨hx, hy⟩, h]
    rfl
  unfold readS
  rw [h3, h2]
theorem read_3 {x y z : Sym} {R : List Sym} {t : TermD} (h : wholeS noP [x, y, z] = some t) : readS noP (x :: y :: z :: R) = some (t, 3) := by
  have h3 : tryS noP (x :: y :: z :: R) 3 = some (t, 3) := by
    unfold tryS
    rw [if_pos (by simp)]
    show (wholeS noP [x, y, z]).map _ = _
    rw [h]
    rfl
  unfold readS
  rw [h3]

theorem S_bsB (s : ByteArray) : S (bs s) = s := str_of rfl
theorem okT_may {t : TermD} (h : mayD t = true) : okT t = some t := by unfold okT; rw [if_pos h]

/-- A term's own symbols are read as it. -/
theorem read_term {a : TermD} (h : mayD a = true) (p : Nat) {R : List Sym} (hR : HeadOK R) : readS noP ((symsOf a.1 (bs a.2.1) (bs a.2.2)).map (shiftS p) ++ R) = some (a, (symsOf a.1 (bs a.2.1) (bs a.2.2)).length) := by
  obtain ⟨k, t, x⟩ := a
  have hm : mayS k t x = true := h
  have e0 : ∀ k' : Int, (k' = 1 ∨ k' = 2 ∨ k' = 3) → k = k' → x = noneB := fun k' hk' e => by
    have h := hm
    subst e
    unfold mayS at h
    rcases hk' with rfl | rfl | rfl
    · rw [if_pos rfl, Bool.and_eq_true] at h
      exact empty_of x (by have := h.1; unfold noExtra at this; simpa using this)
    · rw [if_neg (by decide), if_pos rfl, Bool.and_eq_true] at h
      exact empty_of x (by have := h.1; unfold noExtra at this; simpa using this)
    · rw [if_neg (by decide), if_neg (by decide), if_pos rfl, Bool.and_eq_true] at h
      exact empty_of x (by have := h.1; unfold noExtra at this; simpa using this)
  show readS noP ((symsOf k (bs t) (bs x)).map (shiftS p) ++ R) = some ((k, t, x), (symsOf k (bs t) (bs x)).length)
  by_cases h1 : k = 1
  · obtain rfl := e0 1 (.inl rfl) h1
    subst h1
    rw [show symsOf 1 (bs t) (bs noneB) = [⟨1, [], 1, bs t, [], 0⟩] from rfl]
    refine read_1 (by show (1 : Nat) ≠ 3; decide) ?_
    show some ((1 : Int), S (bs t), noneB) = _
    rw [S_bsB]
  by_cases h2 : k = 2
  · obtain rfl := e0 2 (.inr (.inl rfl)) h2
    subst h2
    rw [show symsOf 2 (bs t) (bs noneB) = [⟨2, [], 2, bs t, [], 0⟩] from rfl]
    refine read_1 (by show (2 : Nat) ≠ 3; decide) ?_
    show some ((2 : Int), S (bs t), noneB) = _
    rw [S_bsB]
  by_cases h3 : k = 3
  · obtain rfl := e0 3 (.inr (.inr rfl)) h3
    subst h3
    rw [show symsOf 3 (bs t) (bs noneB) = [⟨3, bs t, 0, [], [], 0⟩] from rfl]
    refine read_1s rfl hR ?_
    show okT (3, S (bs t), noneB) = _
    rw [S_bsB]
    exact okT_may h
  by_cases h4 : k = 4
  · subst h4
    rw [show symsOf 4 (bs t) (bs x) = [⟨3, bs t, 0, [], [], 0⟩, ⟨4, bs x, 0, [], [], (quoteL (bs t)).length⟩] from rfl]
    refine read_2 rfl rfl ?_
    show okT (4, S (bs t), S (bs x)) = _
    rw [S_bsB, S_bsB]
    exact okT_may h
  by_cases h5 : k = 5
  · subst h5
    rw [show symsOf 5 (bs t) (bs x) = [⟨3, bs t, 0, [], [], 0⟩, ⟨8, [94, 94], 0, [], [], (quoteL (bs t)).length⟩, ⟨1, [], 1, bs x, [], (quoteL (bs t)).length + 2⟩] from rfl]
    refine read_3 ?_
    rw [wholeS]
    show (if _ then typedR (S (bs t)) (some ((1 : Int), S (bs x), noneB)) else none) = _
    rw [if_pos ⟨rfl, rfl, rfl⟩, S_bsB, S_bsB]
    have hne : x ≠ xsdS := by
      have := (type_not_xsd t x hm).1
      rw [(xsd_neq x).1] at this
      simpa using this
    show (if (1 : Int) = 1 then (if x = xsdS then _ else okT (5, t, x)) else none) = _
    rw [if_pos rfl, if_neg hne]
    exact okT_may h
  · unfold mayS at hm
    rw [if_neg h1, if_neg h2, if_neg h3, if_neg h4, if_neg h5] at hm
    cases hm

/-- The symbols of a term's text, whatever comes behind a space. -/
theorem span_stop {q : Int → Bool} {l : List Int} (h : ∀ c ∈ l, q c = true) (c : Int) (hc : q c = false) (r : List Int) : spanL q (l ++ c :: r) = l.length := by
  unfold spanL
  induction l with
  | nil => rw [List.nil_append, List.takeWhile_cons, if_neg (by rw [hc]; decide)]
  | cons d l ih => rw [List.cons_append, List.takeWhile_cons, if_pos (h d (by simp)), List.length_cons, List.length_cons, ih (fun e he => h e (List.mem_cons_of_mem _ he))]
theorem one_blank_r {l : List Int} (h : isBlankB l = true) (r : List Int) : one (95 :: 58 :: (l ++ 32 :: r)) = .got ⟨2, [], 2, l, [], 0⟩ (l.length + 2) := by
  have hq : blankT (95 :: 58 :: (l ++ 32 :: r)) = .got ⟨2, [], 2, l, [], 0⟩ (l.length + 2) := by
    unfold blankT
    have e : (95 :: 58 :: (l ++ 32 :: r)).drop 2 = l ++ 32 :: r := rfl
    rw [if_pos (by simp [List.isPrefixOf]), e, span_stop (blank_chars h) 32 (by decide), List.take_left, if_pos h]
    congr 1
    omega
  unfold one takers
  rw [hq]
  have h1 : markT (95 :: 58 :: (l ++ 32 :: r)) = .no := by unfold markT markL; simp [List.isPrefixOf]
  have h2 : spanL letterDigit (95 :: 58 :: (l ++ 32 :: r)) = 0 := by unfold spanL; rw [List.takeWhile_cons, if_neg (by decide)]; rfl
  have h3 : nameT (95 :: 58 :: (l ++ 32 :: r)) = .no := by unfold nameT; rw [h2, List.drop_zero, if_neg (by unfold colonB; simp [List.isPrefixOf])]
  have h4 : wordT (95 :: 58 :: (l ++ 32 :: r)) = .no := by unfold wordT; rw [h2, if_pos rfl]
  have h5 : varT (95 :: 58 :: (l ++ 32 :: r)) = .no := by unfold varT; rw [if_neg (by simp [List.isPrefixOf])]
  have h6 : quotedT (95 :: 58 :: (l ++ 32 :: r)) = .no := by unfold quotedT; rw [if_neg (by simp [List.isPrefixOf])]
  have h7 : iriT (95 :: 58 :: (l ++ 32 :: r)) = .no := by unfold iriT; rw [if_neg (by simp [List.isPrefixOf])]
  rw [h1, h3, h4, h5, h6, h7]
  rfl
theorem one_lang_r {l : List Int} (h : tagL l = true) (r : List Int) : one (64 :: (l ++ 32 :: r)) = .got (symT 4 l) (l.length + 1) := by
  have hq : langT (64 :: (l ++ 32 :: r)) = .got (symT 4 l) (l.length + 1) := by
    unfold langT
    have e : (64 :: (l ++ 32 :: r)).drop 1 = l ++ 32 :: r := rfl
    rw [if_pos (by simp [List.isPrefixOf]), e, span_stop (tag_chars h) 32 (by decide), List.take_left, if_pos h]
    congr 1
    omega
  unfold one takers
  rw [hq]
  have h1 : markT (64 :: (l ++ 32 :: r)) = .no := by unfold markT markL; simp [List.isPrefixOf]
  have h2 : spanL letterDigit (64 :: (l ++ 32 :: r)) = 0 := by unfold spanL; rw [List.takeWhile_cons, if_neg (by decide)]; rfl
  have h3 : nameT (64 :: (l ++ 32 :: r)) = .no := by unfold nameT; rw [h2, List.drop_zero, if_neg (by unfold colonB; simp [List.isPrefixOf])]
  have h4 : wordT (64 :: (l ++ 32 :: r)) = .no := by unfold wordT; rw [h2, if_pos rfl]
  have h5 : varT (64 :: (l ++ 32 :: r)) = .no := by unfold varT; rw [if_neg (by simp [List.isPrefixOf])]
  have h6 : quotedT (64 :: (l ++ 32 :: r)) = .no := by unfold quotedT; rw [if_neg (by simp [List.isPrefixOf])]
  have h7 : iriT (64 :: (l ++ 32 :: r)) = .no := by unfold iriT; rw [if_neg (by simp [List.isPrefixOf])]
  have h8 : blankT (64 :: (l ++ 32 :: r)) = .no := by unfold blankT; rw [if_neg (by simp [List.isPrefixOf])]
  rw [h1, h3, h4, h5, h6, h7, h8]
  rfl

theorem toks_ws {c : Int} (hc : isWS c = true) (r : List Int) (p : Nat) : toks (c :: r) p = toks r (p + 1) := by
  have e1 : sk false (c :: r) = 1 + sk false r := by rw [skF, if_pos hc]
  have e2 : (c :: r).drop (1 + sk false r) = r.drop (sk false r) := by rw [Nat.add_comm, List.drop_succ_cons]
  rw [toks_eq (c :: r), toks_eq r, e1, e2]
  have e3 : p + (1 + sk false r) = p + 1 + sk false r := by omega
  rw [e3]
  split
  · rfl
  · cases ho : one (r.drop (sk false r)) with
    | no => rfl
    | bad => rfl
    | got x m =>
      simp only
      have e4 : (c :: r).drop (1 + sk false r + m) = r.drop (sk false r + m) := by rw [show 1 + sk false r + m = (sk false r + m) + 1 by omega, List.drop_succ_cons]
      rw [e4]

/-- Where the symbols of a term lie. -/
theorem toks_term {k : Int} {t x : ByteArray} (h : mayS k t x = true) (r : List Int) (p : Nat) :
    toks (textL k t x ++ 32 :: r) p = ((symsOf k (bs t) (bs x)).map (shiftS p) ++ (toks r (p + (textL k t x).length + 1)).1, (toks r (p + (textL k t x).length + 1)).2) := by
  have hb := bs_byte t
  unfold mayS at h
  have hws : ∀ (n : Nat), toks (32 :: r) n = toks r (n + 1) := fun n => toks_ws (by decide) r n
  by_cases h1 : k = 1
  · subst h1
    rw [if_pos rfl, Bool.and_eq_true] at h
    rw [show textL 1 t x = 60 :: (bs t ++ [62]) from rfl, show symsOf 1 (bs t) (bs x) = [⟨1, [], 1, bs t, [], 0⟩] from rfl]
    have e : 60 :: (bs t ++ [62]) ++ 32 :: r = 60 :: (bs t ++ 62 :: (32 :: r)) := by simp
    have ed : (60 :: (bs t ++ 62 :: (32 :: r))).drop ((bs t).length + 2) = 32 :: r := by
      rw [show (60 :: (bs t ++ 62 :: (32 :: r)) : List Int) = (60 :: (bs t ++ [62])) ++ 32 :: r by simp, show (bs t).length + 2 = (60 :: (bs t ++ [62]) : List Int).length by simp, List.drop_left]
    rw [e, toks_one (by rw [skF, if_neg (by decide), if_neg (by decide)]) (by simp) (one_iri h.2 (32 :: r)), ed, hws]
    simp [shiftS, Nat.add_assoc]
  rw [if_neg h1] at h
  by_cases h2 : k = 2
  · subst h2
    rw [if_pos rfl, Bool.and_eq_true] at h
    rw [show textL 2 t x = 95 :: 58 :: bs t from rfl, show symsOf 2 (bs t) (bs x) = [⟨2, [], 2, bs t, [], 0⟩] from rfl]
    have e : 95 :: 58 :: bs t ++ 32 :: r = 95 :: 58 :: (bs t ++ 32 :: r) := by simp
    have ed : (95 :: 58 :: (bs t ++ 32 :: r)).drop ((bs t).length + 2) = 32 :: r := by
      rw [List.drop_succ_cons, List.drop_succ_cons, List.drop_left]
    rw [e, toks_one (by rw [skF, if_neg (by decide), if_neg (by decide)]) (by simp) (one_blank_r h.2 r), ed, hws]
    simp [shiftS, Nat.add_assoc]
  rw [if_neg h2] at h
  by_cases h3 : k = 3
  · subst h3
    rw [show textL 3 t x = quoteL (bs t) from rfl, show symsOf 3 (bs t) (bs x) = [⟨3, bs t, 0, [], [], 0⟩] from rfl]
    rw [toks_one (sk_quote _ _) (quote_ne _ _) (one_quote (r := 32 :: r) hb), List.drop_left, hws]
    simp [symT, shiftS, Nat.add_assoc]
  rw [if_neg h3] at h
  by_cases h4 : k = 4
  · subst h4
    rw [if_pos rfl, Bool.and_eq_true] at h
    rw [show textL 4 t x = quoteL (bs t) ++ 64 :: bs x from rfl, show symsOf 4 (bs t) (bs x) = [⟨3, bs t, 0, [], [], 0⟩, ⟨4, bs x, 0, [], [], (quoteL (bs t)).length⟩] from rfl]
    have htag : tagL (bs x) = true := by rw [← tagS_any]; exact h.1
    have e : quoteL (bs t) ++ 64 :: bs x ++ 32 :: r = quoteL (bs t) ++ (64 :: (bs x ++ 32 :: r)) := by simp
    have ed : (64 :: (bs x ++ 32 :: r)).drop ((bs x).length + 1) = 32 :: r := by rw [List.drop_succ_cons, List.drop_left]
    rw [e, toks_one (sk_quote _ _) (quote_ne _ _) (one_quote hb), List.drop_left, toks_one (by rw [skF, if_neg (by decide), if_neg (by decide)]) (by simp) (one_lang_r htag r), ed, hws]
    simp [symT, shiftS, Nat.add_assoc, Nat.add_comm]
  rw [if_neg h4] at h
  by_cases h5 : k = 5
  · subst h5
    rw [if_pos rfl, Bool.and_eq_true] at h
    rw [show textL 5 t x = quoteL (bs t) ++ 94 :: 94 :: 60 :: (bs x ++ [62]) from rfl, show symsOf 5 (bs t) (bs x) = [⟨3, bs t, 0, [], [], 0⟩, ⟨8, [94, 94], 0, [], [], (quoteL (bs t)).length⟩, ⟨1, [], 1, bs x, [], (quoteL (bs t)).length + 2⟩] from rfl]
    have hi : isIRIB (bs x) = true := by have := h.1; unfold isTypeB at this; rw [Bool.and_eq_true] at this; exact this.2
    have e : quoteL (bs t) ++ 94 :: 94 :: 60 :: (bs x ++ [62]) ++ 32 :: r = quoteL (bs t) ++ (94 :: 94 :: (60 :: (bs x ++ 62 :: (32 :: r)))) := by simp
    have e1 : (94 :: 94 :: (60 :: (bs x ++ 62 :: (32 :: r)))).drop 2 = 60 :: (bs x ++ 62 :: (32 :: r)) := rfl
    have ed : (60 :: (bs x ++ 62 :: (32 :: r))).drop ((bs x).length + 2) = 32 :: r := by
      rw [show (60 :: (bs x ++ 62 :: (32 :: r)) : List Int) = (60 :: (bs x ++ [62])) ++ 32 :: r by simp, show (bs x).length + 2 = (60 :: (bs x ++ [62]) : List Int).length by simp, List.drop_left]
    rw [e, toks_one (sk_quote _ _) (quote_ne _ _) (one_quote hb), List.drop_left, toks_one (by rw [skF, if_neg (by decide), if_neg (by decide)]) (by simp) (one_mark _), e1, toks_one (by rw [skF, if_neg (by decide), if_neg (by decide)]) (by simp) (one_iri hi (32 :: r)), ed, hws]
    have e9 : p + (quoteL (bs t)).length + 2 + ((bs x).length + 2) + 1 = p + ((quoteL (bs t)).length + ((bs x).length + 1 + 1 + 1 + 1)) + 1 := by omega
    have e8 : (quoteL (bs t) ++ 94 :: 94 :: 60 :: (bs x ++ [62])).length = (quoteL (bs t)).length + ((bs x).length + 1 + 1 + 1 + 1) := by simp
    rw [e8, e9]
    simp [symT, shiftS, Nat.add_comm, Nat.add_left_comm]
  · rw [if_neg h5] at h
    cases h
end Go.Proofs.YtachijkjcbajmaaGreatDoor
/-
  PLAIN MATHEMATICS: the text of triples is a document of them; two documents behind each other are one.
-/

namespace Go.Proofs.YtachijkjcbajmaaGreatDoor
open Go.RowKit
open Utf Term Lex
set_option linter.unusedVariables false

def symsD (a : TermD) (p : Nat) : List Sym := (symsOf a.1 (bs a.2.1) (bs a.2.2)).map (shiftS p)
def lenD (a : TermD) : Nat := (textL a.1 a.2.1 a.2.2).length
def endSym (p : Nat) : Sym := { symT 8 [46] with place := p }
/-- The symbols of a line that begins at p. -/
def lineSyms (t : TripD) (p : Nat) : List Sym :=
  symsD t.1 p ++ (symsD t.2.1 (p + lenD t.1 + 1) ++ (symsD t.2.2 (p + lenD t.1 + 1 + lenD t.2.1 + 1) ++ [endSym (p + lenD t.1 + 1 + lenD t.2.1 + 1 + lenD t.2.2 + 1)]))
theorem one_end (r : List Int) : one (46 :: r) = .got (symT 8 [46]) 1 := by
  unfold one takers
  have h1 : markT (46 :: r) = .got (symT 8 [46]) 1 := by unfold markT markL; simp [List.isPrefixOf]
  rw [h1]
  rfl
theorem toks_end (r : List Int) (p : Nat) : toks (46 :: r) p = (endSym p :: (toks r (p + 1)).1, (toks r (p + 1)).2) := by
  rw [toks_one (by rw [skF, if_neg (by decide), if_neg (by decide)]) (by simp) (one_end r)]
  rfl
theorem lineT_len (t : TripD) : (lineT t).length = lenD t.1 + 1 + lenD t.2.1 + 1 + lenD t.2.2 + 1 + 1 + 1 := by
  have e : lineT t = textL t.1.1 t.1.2.1 t.1.2.2 ++ 32 :: (textL t.2.1.1 t.2.1.2.1 t.2.1.2.2 ++ 32 :: (textL t.2.2.1 t.2.2.2.1 t.2.2.2.2 ++ [32, 46])) ++ [10] := rfl
  rw [e]
  unfold lenD
  simp only [List.length_append, List.length_cons, List.length_nil]
  omega
theorem add_mays {t : TripD} (h : addT t = true) : mayD t.1 = true ∧ mayD t.2.1 = true ∧ mayD t.2.2 = true := by
  have := add_may h
  simp only [Bool.and_eq_true] at this
  exact ⟨this.1.1, this.1.2, this.2⟩
/-- A line, but for its byte 10: its symbols, and what comes behind. -/
theorem toks_triple {t : TripD} (h : addT t = true) (r : List Int) (p : Nat) :
    toks (tripleL t.1 t.2.1 t.2.2 ++ r) p = (lineSyms t p ++ (toks r (p + lenD t.1 + 1 + lenD t.2.1 + 1 + lenD t.2.2 + 1 + 1)).1, (toks r (p + lenD t.1 + 1 + lenD t.2.1 + 1 + lenD t.2.2 + 1 + 1)).2) := by
  obtain ⟨h1, h2, h3⟩ := add_mays h
  have e : tripleL t.1 t.2.1 t.2.2 ++ r = textL t.1.1 t.1.2.1 t.1.2.2 ++ 32 :: (textL t.2.1.1 t.2.1.2.1 t.2.1.2.2 ++ 32 :: (textL t.2.2.1 t.2.2.2.1 t.2.2.2.2 ++ 32 :: (46 :: r))) := by
    show (textL t.1.1 t.1.2.1 t.1.2.2 ++ 32 :: (textL t.2.1.1 t.2.1.2.1 t.2.1.2.2 ++ 32 :: (textL t.2.2.1 t.2.2.2.1 t.2.2.2.2 ++ [32, 46]))) ++ r = _
    simp
  rw [e, toks_term h1, toks_term h2, toks_term h3, toks_end]
  unfold lineSyms symsD lenD
  simp
theorem toks_line {t : TripD} (h : addT t = true) (r : List Int) (p : Nat) :
    toks (lineT t ++ r) p = (lineSyms t p ++ (toks r (p + (lineT t).length)).1, (toks r (p + (lineT t).length)).2) := by
  have e : lineT t ++ r = tripleL t.1 t.2.1 t.2.2 ++ (10 :: r) := by unfold lineT; simp
  rw [e, toks_triple h, toks_ws (by decide), lineT_len]
  have e2 : p + lenD t.1 + 1 + lenD t.2.1 + 1 + lenD t.2.2 + 1 + 1 + 1 = p + (lenD t.1 + 1 + lenD t.2.1 + 1 + lenD t.2.2 + 1 + 1 + 1) := by omega
  rw [e2]

theorem headOK_syms {a : TermD} {p : Nat} {R : List Sym} : HeadOK (symsD a p ++ R) := by
  intro y r h
  unfold symsD symsOf at h
  split at h
  · cases h; exact ⟨by show (1 : Nat) ≠ 4; decide, fun h => absurd h.1 (by show (1 : Nat) ≠ 8; decide)⟩
  · split at h
    · cases h; exact ⟨by show (2 : Nat) ≠ 4; decide, fun h => absurd h.1 (by show (2 : Nat) ≠ 8; decide)⟩
    · split at h
      · cases h; exact ⟨by show (3 : Nat) ≠ 4; decide, fun h => absurd h.1 (by show (3 : Nat) ≠ 8; decide)⟩
      · split at h
        · cases h; exact ⟨by show (3 : Nat) ≠ 4; decide, fun h => absurd h.1 (by show (3 : Nat) ≠ 8; decide)⟩
        · cases h; exact ⟨by show (3 : Nat) ≠ 4; decide, fun h => absurd h.1 (by show (3 : Nat) ≠ 8; decide)⟩
theorem headOK_end {p : Nat} {R : List Sym} : HeadOK (endSym p :: R) := by
  intro y r h
  cases h
  exact ⟨by show (8 : Nat) ≠ 4; decide, fun h => absurd h.2 (by show ([46] : List Int) ≠ typeMarkL; decide)⟩
theorem read_syms {a : TermD} (h : mayD a = true) (p : Nat) {R : List Sym} (hR : HeadOK R) : readS noP (symsD a p ++ R) = some (a, (symsD a p).length) := by
  have := read_term h p hR
  unfold symsD
  rw [this, List.length_map]
theorem stm_line {t : TripD} (h : addT t = true) (p : Nat) (R : List Sym) : stmS (lineSyms t p ++ R) = .yes t R := by
  obtain ⟨h1, h2, h3⟩ := add_mays h
  have h3s : threeS 3 (lineSyms t p ++ R) = .yes [t.1, t.2.1, t.2.2] (endSym (p + lenD t.1 + 1 + lenD t.2.1 + 1 + lenD t.2.2 + 1) :: R) := by
    unfold lineSyms
    rw [List.append_assoc, threeS, read_syms h1 p (by rw [List.append_assoc]; exact headOK_syms)]
    simp only
    rw [List.drop_left, List.append_assoc, threeS, read_syms h2 _ (by rw [List.append_assoc]; exact headOK_syms)]
    simp only
    rw [List.drop_left, List.append_assoc, threeS, read_syms h3 _ (show HeadOK ([endSym (p + lenD t.1 + 1 + lenD t.2.1 + 1 + lenD t.2.2 + 1)] ++ R) from headOK_end)]
    simp only
    rw [List.drop_left, threeS]
    rfl
  unfold stmS
  rw [h3s]
  show (if addD t.1 t.2.1 t.2.2 = true then _ else _) = _
  rw [show addD t.1 t.2.1 t.2.2 = true from h, if_pos rfl, endS, if_pos (show isEnd (endSym _) = true from rfl)]
/-- All the lines' symbols. -/
theorem parse_lines : ∀ (ts : List TripD) (p : Nat) (r : List Int), ts.all addT = true → ∃ L, (toks (textsL ts ++ r) p) = (L ++ (toks r (p + (textsL ts).length)).1, (toks r (p + (textsL ts).length)).2) ∧ ∀ R, parseS (L ++ R) = (parseS R).put ts
  | [], p, r, _ => ⟨[], by simp [textsL], fun R => by rw [List.nil_append, Par.put_nil]⟩
  | t :: ts, p, r, h => by
    rw [List.all_cons, Bool.and_eq_true] at h
    obtain ⟨L, h1, h2⟩ := parse_lines ts (p + (lineT t).length) r h.2
    refine ⟨lineSyms t p ++ L, ?_, fun R => ?_⟩
    · have e : textsL (t :: ts) ++ r = lineT t ++ (textsL ts ++ r) := by
        show (lineT t ++ textsL ts) ++ r = _
        rw [List.append_assoc]
      have el : (textsL (t :: ts)).length = (lineT t).length + (textsL ts).length := by
        show (lineT t ++ textsL ts).length = _
        rw [List.length_append]
      rw [e, toks_line h.1, h1, el, Nat.add_assoc]
      simp only [List.append_assoc]
    · have hne : lineSyms t p ++ L ++ R ≠ [] := by unfold lineSyms; simp
      rw [parseS_cons _ hne, List.append_assoc, stm_line h.1]
      simp only
      rw [h2, Par.put_put]
      rfl

theorem lines_valid : ∀ (ts : List TripD), ts.all addT = true → (textsL ts).length ≤ 1048576 → valid (textsL ts) = true
  | [], _, _ => valid_ascii (by simp [textsL]) (by simp [textsL])
  | t :: ts, h, hl => by
    rw [List.all_cons, Bool.and_eq_true] at h
    obtain ⟨h1, h2, h3⟩ := add_mays h.1
    obtain ⟨v1, l1⟩ := text_valid (k := t.1.1) (t := t.1.2.1) (x := t.1.2.2) h1
    obtain ⟨v2, l2⟩ := text_valid (k := t.2.1.1) (t := t.2.1.2.1) (x := t.2.1.2.2) h2
    obtain ⟨v3, l3⟩ := text_valid (k := t.2.2.1) (t := t.2.2.2.1) (x := t.2.2.2.2) h3
    have e : textsL (t :: ts) = lineT t ++ textsL ts := rfl
    have hlen : (textsL ts).length ≤ 1048576 := by rw [e, List.length_append] at hl; omega
    have ih := lines_valid ts h.2 hlen
    have el : lineT t = textL t.1.1 t.1.2.1 t.1.2.2 ++ ([32] ++ (textL t.2.1.1 t.2.1.2.1 t.2.1.2.2 ++ ([32] ++ (textL t.2.2.1 t.2.2.2.1 t.2.2.2.2 ++ [32, 46, 10])))) := by
      show (textL t.1.1 t.1.2.1 t.1.2.2 ++ 32 :: (textL t.2.1.1 t.2.1.2.1 t.2.1.2.2 ++ 32 :: (textL t.2.2.1 t.2.2.2.1 t.2.2.2.2 ++ [32, 46]))) ++ [10] = _
      simp
    have vl : valid (lineT t) = true := by
      rw [el, valid_join (by omega) (by simp; omega) v1, valid_join (by simp) (by simp; omega) (valid_one 32 (by decide)), valid_join (by omega) (by simp; omega) v2, valid_join (by simp) (by simp; omega) (valid_one 32 (by decide)), valid_join (by omega) (by simp) v3]
      exact valid_ascii (by simp) (by simp)
    obtain ⟨ra, a1, a2⟩ := (valid_iff (by have := line_len h.1; omega)).1 vl
    obtain ⟨rb, b1, b2⟩ := (valid_iff (by omega)).1 ih
    refine (valid_iff (by omega)).2 ⟨ra ++ rb, a1.append b1, ?_⟩
    rw [e, encs_append, ← a2, ← b2]

theorem lines_byte (ts : List TripD) : AllB (textsL ts) := by
  intro c hc
  obtain ⟨t, _, ht⟩ := List.mem_flatMap.1 hc
  rcases List.mem_append.1 ht with h | h
  · exact triple_byte _ _ _ c h
  · rw [List.mem_singleton.1 h]; exact ⟨by decide, by decide⟩

/-- The text of triples is a document of them. -/
theorem doc_text {ts : List TripD} (h : ts.all addT = true) (hl : (textsL ts).length ≤ 1048576) : docS (strOfNums (textsL ts)) = .good ts := by
  have hb : bs (strOfNums (textsL ts)) = textsL ts := bs_strOfNums (lines_byte ts)
  have hz : (strOfNums (textsL ts)).size = (textsL ts).length := strOfNums_size _
  obtain ⟨L, h1, h2⟩ := parse_lines ts 0 [] h
  rw [List.append_nil, toks_nil] at h1
  have ha : allL (textsL ts) = (L, (textsL ts).length) := by
    unfold allL
    rw [h1]
    simp
  have hw := wf_of_valid (lines_valid ts h hl)
  unfold docS
  rw [hz, hb, if_neg (by omega), hw, if_neg (by omega), ha]
  simp only
  rw [if_neg (by omega)]
  have := h2 []
  rw [List.append_nil, parseS_nil] at this
  rw [this]
  simp [docOf, Par.put]
end Go.Proofs.YtachijkjcbajmaaGreatDoor
/-
  PLAIN MATHEMATICS: two documents behind each other are one, of both.
-/

namespace Go.Proofs.YtachijkjcbajmaaGreatDoor
open Go.RowKit
open Utf Term Lex
set_option linter.unusedVariables false

theorem read_head {y : Sym} {r : List Sym} {x : TermD × Nat} (h : readS noP (y :: r) = some x) : y.kind = 1 ∨ y.kind = 2 ∨ y.kind = 3 := by
  by_cases h3 : y.kind = 3
  · exact .inr (.inr h3)
  · have hn : namedS noP y ≠ none := by
      intro hn
      have e3 : tryS noP (y :: r) 3 = none := by
        unfold tryS
        match r with
        | [] => rw [if_neg (by simp)]
        | [a] => rw [if_neg (by simp)]
        | a :: b :: r =>
          rw [if_pos (by simp)]
          show (wholeS noP [y, a, b]).map _ = none
          rw [wholeS, if_neg (fun h => h3 h.1)]
          rfl
      have e2 : tryS noP (y :: r) 2 = none := by
        unfold tryS
        match r with
        | [] => rw [if_neg (by simp)]
        | a :: r =>
          rw [if_pos (by simp)]
          show (wholeS noP [y, a]).map _ = none
          rw [wholeS, if_neg (fun h => h3 h.1)]
          rfl
      unfold readS at h
      rw [e3, e2] at h
      simp only at h
      rw [try_one rfl, wholeS, if_neg h3, hn] at h
      cases h
    unfold namedS at hn
    split at hn
    · exact .inl (by assumption)
    · split at hn
      · exact .inr (.inl (by assumption))
      · split at hn <;> exact absurd rfl hn
theorem noTail_of_kind {y : Sym} (h : y.kind = 1 ∨ y.kind = 2 ∨ y.kind = 3) : NoTail y := ⟨by omega, fun k => by have := k.1; omega⟩

/-- What is read stays, if what comes next goes with no string. -/
theorem read_app {L M : List Sym} {t : TermD} {n : Nat} (h : readS noP L = some (t, n)) {y : Sym} {r : List Sym} (hd : L.drop n = y :: r) (hy : NoTail y) : readS noP (L ++ M) = some (t, n) := by
  cases L with
  | nil => simp at hd
  | cons x L =>
    by_cases hx : x.kind = 3
    · -- the three lengths
      have key : ∀ k, tryS noP (x :: L) k = some (t, n) → n = k := by
        intro k hk
        unfold tryS at hk
        split at hk
        · cases hw : wholeS noP ((x :: L).take k) with
          | none => rw [hw] at hk; cases hk
          | some u => rw [hw] at hk; simp only [Option.map_some, Option.some.injEq, Prod.mk.injEq] at hk; exact hk.2.symm
        · cases hk
      have h' := h
      unfold readS at h
      cases h3 : tryS noP (x :: L) 3 with
      | some q =>
        rw [h3] at h
        simp only [Option.some.injEq] at h
        subst h
        obtain rfl := key 3 h3
        match L, h3 with
        | [], h3 => unfold tryS at h3; rw [if_neg (by simp)] at h3; cases h3
        | [a], h3 => unfold tryS at h3; rw [if_neg (by simp)] at h3; cases h3
        | a :: b :: L, h3 =>
          unfold tryS at h3
          rw [if_pos (by simp)] at h3
          cases hw : wholeS noP [x, a, b] with
          | none =>
            have h3 : (wholeS noP [x, a, b]).map (fun t => (t, 3)) = some (t, 3) := h3
            rw [hw] at h3; cases h3
          | some u =>
            have h3 : (wholeS noP [x, a, b]).map (fun t => (t, 3)) = some (t, 3) := h3
            rw [hw] at h3
            simp only [Option.map_some, Option.some.injEq, Prod.mk.injEq, and_true] at h3
            subst h3
            exact read_3 hw
      | none =>
        rw [h3] at h
        simp only at h
        cases h2 : tryS noP (x :: L) 2 with
        | some q =>
          rw [h2] at h
          simp only [Option.some.injEq] at h
          subst h
          obtain rfl := key 2 h2
          match L, h2 with
          | [], h2 => unfold tryS at h2; rw [if_neg (by simp)] at h2; cases h2
          | a :: L, h2 =>
            unfold tryS at h2
            rw [if_pos (by simp)] at h2
            have h2 : (wholeS noP [x, a]).map (fun t => (t, 2)) = some (t, 2) := h2
            rw [wholeS] at h2
            split at h2
            · rename_i hk
              cases ho : okT (4, S x.text, S a.text) with
              | none => rw [ho] at h2; cases h2
              | some u =>
                rw [ho] at h2
                simp only [Option.map_some, Option.some.injEq, Prod.mk.injEq, and_true] at h2
                subst h2
                exact read_2 hx hk.2 ho
            · cases h2
        | none =>
          rw [h2] at h
          simp only at h
          obtain rfl := key 1 h
          rw [try_one rfl, wholeS, if_pos hx] at h
          cases ho : okT (3, S x.text, noneB) with
          | none => rw [ho] at h; cases h
          | some u =>
            rw [ho] at h
            simp only [Option.map_some, Option.some.injEq, Prod.mk.injEq, and_true] at h
            subst h
            have hL : L = y :: r := hd
            subst hL
            refine read_1s hx ?_ ho
            intro a b e
            cases e
            exact hy
    · have hr := read_head h
      have hn1 : namedS noP x = some t ∧ n = 1 := by
        have e3 : tryS noP (x :: L) 3 = none := by
          unfold tryS
          match L with
          | [] => rw [if_neg (by simp)]
          | [a] => rw [if_neg (by simp)]
          | a :: b :: r =>
            rw [if_pos (by simp)]
            show (wholeS noP [x, a, b]).map _ = none
            rw [wholeS, if_neg (fun h => hx h.1)]
            rfl
        have e2 : tryS noP (x :: L) 2 = none := by
          unfold tryS
          match L with
          | [] => rw [if_neg (by simp)]
          | a :: r =>
            rw [if_pos (by simp)]
            show (wholeS noP [x, a]).map _ = none
            rw [wholeS, if_neg (fun h => hx h.1)]
            rfl
        unfold readS at h
        rw [e3, e2] at h
        simp only at h
        rw [try_one rfl, wholeS, if_neg hx] at h
        cases hnm : namedS noP x with
        | none => rw [hnm] at h; cases h
        | some u =>
          rw [hnm] at h
          simp only [Option.map_some, Option.some.injEq, Prod.mk.injEq] at h
          exact ⟨by rw [h.1], h.2.symm⟩
      obtain ⟨h1, rfl⟩ := hn1
      exact read_1 hx h1

theorem three_app : ∀ {n : Nat} {L M l : List Sym} {ts : List TermD} {y : Sym} {r : List Sym}, threeS n L = .yes ts l → l = y :: r → NoTail y → threeS n (L ++ M) = .yes ts (l ++ M)
  | 0, L, M, l, ts, y, r, h, hl, hy => by
    simp only [threeS, Took3.yes.injEq] at h
    obtain ⟨rfl, rfl⟩ := h
    rfl
  | n + 1, L, M, l, ts, y, r, h, hl, hy => by
    rw [threeS] at h
    cases hr : readS noP L with
    | none => rw [hr] at h; cases h
    | some x =>
      obtain ⟨t, k⟩ := x
      rw [hr] at h
      simp only at h
      cases ht : threeS n (L.drop k) with
      | no l' => rw [ht] at h; cases h
      | yes us l' =>
        rw [ht] at h
        simp only [Took3.put, Took3.yes.injEq] at h
        obtain ⟨rfl, rfl⟩ := h
        have hp := readS_pos hr
        have hne : ∃ y' r', L.drop k = y' :: r' ∧ NoTail y' := by
          cases n with
          | zero =>
            simp only [threeS, Took3.yes.injEq] at ht
            exact ⟨y, r, by rw [ht.2]; exact hl, hy⟩
          | succ m =>
            cases hd : L.drop k with
            | nil =>
              rw [hd] at ht
              have : readS noP [] = none := rfl
              rw [threeS, this] at ht
              cases ht
            | cons y' r' =>
              rw [hd, threeS] at ht
              cases hr2 : readS noP (y' :: r') with
              | none => rw [hr2] at ht; cases ht
              | some q => exact ⟨y', r', rfl, noTail_of_kind (read_head hr2)⟩
        obtain ⟨y', r', hd, hy'⟩ := hne
        rw [threeS, read_app hr hd hy']
        simp only
        rw [List.drop_append_of_le_length hp.2.2, three_app ht hl hy]
        rfl
theorem stm_app {L M l : List Sym} {t : TripD} (h : stmS L = .yes t l) : stmS (L ++ M) = .yes t (l ++ M) := by
  unfold stmS at h ⊢
  cases ht : threeS 3 L with
  | no l' => rw [ht] at h; cases h
  | yes ts l' =>
    rw [ht] at h
    obtain ⟨h1, _⟩ := threeS_sub ht
    match ts, h1 with
    | [a, b, c], _ =>
      simp only [tripS] at h
      split at h
      · rename_i had
        cases l' with
        | nil => cases h
        | cons x r =>
          rw [endS] at h
          split at h
          · rename_i he
            simp only [Stm.yes.injEq] at h
            obtain ⟨rfl, rfl⟩ := h
            have hx : NoTail x := by
              unfold isEnd at he
              simp only [Bool.and_eq_true, decide_eq_true_eq] at he
              exact ⟨by omega, fun k => by rw [he.2] at k; exact absurd k.2 (by decide)⟩
            rw [three_app ht rfl hx]
            simp only [tripS]
            rw [if_pos had, List.cons_append, endS, if_pos he]
          · cases h
      · cases h
theorem parse_app : ∀ (f : Nat) {L M : List Sym} {x : List TripD}, L.length ≤ f → parseS L = .yes x → parseS (L ++ M) = (parseS M).put x
  | f, [], M, x, _, h => by
    rw [parseS_nil] at h
    cases h
    rw [List.nil_append, Par.put_nil]
  | 0, a :: L, M, x, hf, h => by simp at hf
  | f + 1, a :: L, M, x, hf, h => by
    rw [parseS_cons _ (by simp)] at h
    cases hs : stmS (a :: L) with
    | no l => rw [hs] at h; cases h
    | yes t l =>
      rw [hs] at h
      simp only at h
      cases hl : parseS l with
      | no l' => rw [hl] at h; cases h
      | yes us =>
        rw [hl] at h
        simp only [Par.put, Par.yes.injEq] at h
        subst h
        obtain ⟨k, rfl, hk, _⟩ := stmS_yes hs
        have hlen : ((a :: L).drop k).length ≤ f := by rw [List.length_drop]; simp only [List.length_cons] at *; omega
        rw [parseS_cons _ (by simp), stm_app hs]
        simp only
        rw [parse_app f hlen hl, Par.put_put]
        try rfl

/-- Places do not matter. -/
theorem whole_shift (d : Nat) (L : List Sym) : wholeS noP (L.map (shiftS d)) = wholeS noP L := by
  match L with
  | [] => rfl
  | [x] => rfl
  | [x, y] => rfl
  | [x, y, z] => rfl
  | _ :: _ :: _ :: _ :: _ => rfl
theorem try_shift (d : Nat) (L : List Sym) (n : Nat) : tryS noP (L.map (shiftS d)) n = tryS noP L n := by
  unfold tryS
  rw [List.length_map, ← List.map_take, whole_shift]
theorem read_shift (d : Nat) (L : List Sym) : readS noP (L.map (shiftS d)) = readS noP L := by
  unfold readS
  rw [try_shift, try_shift, try_shift]
def Took3.shift (d : Nat) : Took3 → Took3
  | .no l => .no (l.map (shiftS d))
  | .yes ts l => .yes ts (l.map (shiftS d))
theorem three_shift (d : Nat) : ∀ (n : Nat) (L : List Sym), threeS n (L.map (shiftS d)) = (threeS n L).shift d
  | 0, L => rfl
  | n + 1, L => by
    rw [threeS, threeS, read_shift]
    cases hr : readS noP L with
    | none => rfl
    | some x =>
      obtain ⟨t, k⟩ := x
      simp only
      rw [← List.map_drop, three_shift d n]
      cases threeS n (L.drop k) <;> rfl
def Stm.shift (d : Nat) : Stm → Stm
  | .no l => .no (l.map (shiftS d))
  | .yes t l => .yes t (l.map (shiftS d))
theorem stm_shift (d : Nat) (L : List Sym) : stmS (L.map (shiftS d)) = (stmS L).shift d := by
  unfold stmS
  rw [three_shift]
  cases ht : threeS 3 L with
  | no l => rfl
  | yes ts l =>
    obtain ⟨h1, _⟩ := threeS_sub ht
    match ts, h1 with
    | [a, b, c], _ =>
      simp only [Took3.shift, tripS]
      split
      · cases l with
        | nil => rfl
        | cons x r =>
          rw [List.map_cons, endS, endS]
          have e : isEnd (shiftS d x) = isEnd x := rfl
          rw [e]
          split <;> rfl
      · rfl
def Par.shift (d : Nat) : Par → Par
  | .no l => .no (l.map (shiftS d))
  | .yes ts => .yes ts
theorem parse_shift (d : Nat) : ∀ (f : Nat) (L : List Sym), L.length ≤ f → parseS (L.map (shiftS d)) = (parseS L).shift d
  | f, [], _ => rfl
  | 0, a :: L, h => by simp at h
  | f + 1, a :: L, h => by
    rw [parseS_cons _ (by simp), parseS_cons (a :: L) (by simp), stm_shift]
    cases hs : stmS (a :: L) with
    | no l => rfl
    | yes t l =>
      obtain ⟨k, rfl, hk, _⟩ := stmS_yes hs
      have hlen : ((a :: L).drop k).length ≤ f := by rw [List.length_drop]; simp only [List.length_cons] at *; omega
      simp only [Stm.shift]
      rw [parse_shift d f _ hlen]
      cases parseS ((a :: L).drop k) <;> rfl
theorem place_shift (d n : Nat) (l : List Sym) : placeS (n + d) (l.map (shiftS d)) = placeS n l + d := by
  cases l <;> rfl

/-- What a document is, behind another one. -/
def DocR.after (x : List TripD) (d : Nat) : DocR → DocR
  | .bad p c => .bad (p + d) c
  | .good ts => .good (x ++ ts)
theorem wf_joined {a b : List Int} (ha : a.length ≤ 3000) (hb : b.length ≤ 3000) (h : valid a = true) : wfL (a ++ 10 :: b) = wfL b + (a.length + 1) := by
  obtain ⟨ra, a1, rfl⟩ := (valid_iff (by omega)).1 h
  obtain ⟨rb, c, b1, rfl, b2⟩ := split_text _ b (Nat.le_refl _)
  rw [wfL_split b1 b2 (by omega)]
  have e : encs ra ++ 10 :: (encs rb ++ c) = encs (ra ++ [10] ++ rb) ++ c := by
    rw [encs_append, encs_append]
    have : encs [10] = [10] := by decide
    rw [this]
    simp
  have hm : AllMay (ra ++ [10] ++ rb) := (a1.append (fun x hx => by rw [List.mem_singleton.1 hx]; exact ⟨by decide, by decide, .inl (by decide)⟩)).append b1
  rw [e, wfL_split hm b2 (by rw [← e]; simp at *; omega), encs_append, encs_append]
  have : encs [10] = [10] := by decide
  rw [this]
  simp
  omega
theorem doc_joined {a b : ByteArray} (ha : a.size ≤ 3000) (hb : b.size ≤ 3000) {x : List TripD} (h : docS a = .good x) : docS (a ++ (⟨#[10]⟩ : ByteArray) ++ b) = (docS b).after x (a.size + 1) := by
  have la := bs_length a
  have lb := bs_length b
  have hz : (a ++ (⟨#[10]⟩ : ByteArray) ++ b).size = b.size + (a.size + 1) := by rw [← bs_length, bs_joined]; simp [la, lb]; omega
  have h' := h
  unfold docS at h
  rw [if_neg (by omega)] at h
  split at h
  · cases h
  · rename_i hw
    split at h
    · cases h
    · rename_i hA
      have va := valid_of_wf (l := bs a) (by omega) (by rw [la]; exact hw)
      have pa := (toks_place _ (bs a) 0 (Nat.le_refl _)).2.2
      have ea : (allL (bs a)).2 = (bs a).length := by show (toks (bs a) 0).2 = _; change ¬ (toks (bs a) 0).2 < _ at hA; omega
      have hj := all_join (a := bs a) (b := bs b) ea
      have hpx : parseS (allL (bs a)).1 = .yes x := by
        cases hp : parseS (allL (bs a)).1 with
        | no l => rw [hp] at h; cases h
        | yes ts => rw [hp] at h; simp only [docOf, DocR.good.injEq] at h; rw [h]
      have hwj := wf_joined (a := bs a) (b := bs b) (by omega) (by omega) va
      unfold docS
      rw [hz, bs_joined, hwj, hj, la, if_neg (show ¬ 1048576 < b.size + (a.size + 1) by omega), if_neg (show ¬ 1048576 < b.size by omega)]
      by_cases h1 : wfL (bs b) < b.size
      · rw [if_pos (by omega), if_pos h1]
        rfl
      · rw [if_neg (by omega), if_neg h1]
        simp only
        by_cases h2 : (allL (bs b)).2 < b.size
        · rw [if_pos (by omega), if_pos h2]
          rfl
        · rw [if_neg (by omega), if_neg h2, parse_app _ (Nat.le_refl _) hpx, parse_shift _ _ _ (Nat.le_refl _)]
          cases hp : parseS (allL (bs b)).1 with
          | no l =>
            show DocR.bad (placeS (b.size + (a.size + 1)) (l.map (shiftS (a.size + 1)))) 4 = .bad (placeS b.size l + (a.size + 1)) 4
            rw [place_shift]
          | yes ts => rfl
end Go.Proofs.YtachijkjcbajmaaGreatDoor
/-
  PLAIN MATHEMATICS: the text of what was read is not long.
-/

namespace Go.Proofs.YtachijkjcbajmaaGreatDoor
open Go.RowKit
open Utf Term Lex
set_option linter.unusedVariables false

def wS (x : Sym) : Nat := x.text.length + x.tt.length
def sumW : List Sym → Nat
  | [] => 0
  | x :: L => wS x + sumW L
theorem sumW_append : ∀ (A B : List Sym), sumW (A ++ B) = sumW A + sumW B
  | [], B => by simp [sumW]
  | x :: A, B => by rw [List.cons_append, sumW, sumW, sumW_append A B]; omega
theorem sumW_split (L : List Sym) (n : Nat) : sumW L = sumW (L.take n) + sumW (L.drop n) := by rw [← sumW_append, List.take_append_drop]

theorem one_weight {l : List Int} (hb : ByteL l) {x : Sym} {n : Nat} (h : one l = .got x n) : wS x ≤ n := by
  have hm := firstT_mem h
  unfold takers at hm
  simp only [List.mem_cons, List.not_mem_nil, or_false] at hm
  rcases hm with hm | hm | hm | hm | hm | hm | hm | hm
  · have hm := hm.symm
    unfold markT at hm
    cases hf : markL.find? (fun m => m.isPrefixOf l) with
    | none => rw [hf] at hm; cases hm
    | some m =>
      rw [hf] at hm
      simp only [Took.got.injEq] at hm
      obtain ⟨rfl, rfl⟩ := hm
      simp [wS, symT]
  · have hm := hm.symm
    unfold nameT at hm
    split at hm
    · split at hm
      · cases hm
      · simp only [Took.got.injEq] at hm
        obtain ⟨rfl, rfl⟩ := hm
        simp only [wS, symT, List.length_take, List.length_nil]
        omega
    · cases hm
  · have hm := hm.symm
    unfold wordT at hm
    split at hm
    · cases hm
    · split at hm
      · simp only [Took.got.injEq] at hm
        obtain ⟨rfl, rfl⟩ := hm
        simp only [wS, symT, List.length_take, List.length_nil]
        omega
      · cases hm
  · have hm := hm.symm
    unfold varT at hm
    split at hm
    · split at hm
      · simp only [Took.got.injEq] at hm
        obtain ⟨rfl, rfl⟩ := hm
        simp only [wS, symT, List.length_take, List.length_nil]
        omega
      · cases hm
    · cases hm
  · have hm := hm.symm
    unfold quotedT at hm
    split at hm
    · split at hm
      · cases hm
      · rename_i t k hd
        simp only [Took.got.injEq] at hm
        obtain ⟨rfl, rfl⟩ := hm
        have h1 := den_good (Nat.le_refl _) (hb.drop 1) hd
        simp only [wS, symT, List.length_nil]
        omega
    · cases hm
  · have hm := hm.symm
    unfold iriT at hm
    split at hm
    · split at hm
      · cases hm
      · rename_i t k hd
        split at hm
        · simp only [Took.got.injEq] at hm
          obtain ⟨rfl, rfl⟩ := hm
          have h1 := den_good (Nat.le_refl _) (hb.drop 1) hd
          simp only [wS, List.length_nil]
          omega
        · cases hm
    · cases hm
  · have hm := hm.symm
    unfold blankT at hm
    split at hm
    · split at hm
      · simp only [Took.got.injEq] at hm
        obtain ⟨rfl, rfl⟩ := hm
        simp only [wS, List.length_take, List.length_nil]
        omega
      · cases hm
    · cases hm
  · have hm := hm.symm
    unfold langT at hm
    split at hm
    · split at hm
      · simp only [Took.got.injEq] at hm
        obtain ⟨rfl, rfl⟩ := hm
        simp only [wS, symT, List.length_take, List.length_nil]
        omega
      · cases hm
    · cases hm
theorem toks_weight : ∀ (n : Nat) (l : List Int) (p : Nat), l.length ≤ n → ByteL l → sumW (toks l p).1 ≤ l.length := by
  intro n
  induction n with
  | zero =>
    intro l p hn _
    obtain rfl : l = [] := List.eq_nil_of_length_eq_zero (by omega)
    rw [toks_eq]
    simp [sk, sumW]
  | succ n ih =>
    intro l p hn hb
    rw [toks_eq l p]
    have hs := sk_le false l
    split
    · simp [sumW]
    · cases ho : one (l.drop (sk false l)) with
      | no => simp [sumW]
      | bad => simp [sumW]
      | got x m =>
        have hp := one_pos ho
        rw [List.length_drop] at hp
        have hw := one_weight (hb.drop _) ho
        have := ih (l.drop (sk false l + m)) (p + sk false l + m) (by rw [List.length_drop]; omega) (hb.drop _)
        rw [List.length_drop] at this
        simp only [sumW]
        have e : wS { x with place := p + sk false l } = wS x := rfl
        rw [e]
        omega

def wT (a : TermD) : Nat := a.2.1.size + a.2.2.size
theorem S_size (l : List Int) : (S l).size = l.length := strOfNums_size l
theorem named_weight {x : Sym} {t : TermD} (h : namedS noP x = some t) : wT t ≤ wS x := by
  unfold namedS at h
  split at h
  · cases h
    show (S x.tt).size + 0 ≤ _
    rw [S_size]; unfold wS; omega
  · split at h
    · cases h
      show (S x.tt).size + 0 ≤ _
      rw [S_size]; unfold wS; omega
    · split at h <;> cases h
theorem whole_weight {L : List Sym} {t : TermD} (h : wholeS noP L = some t) : wT t ≤ sumW L := by
  match L, h with
  | [x], h =>
    rw [wholeS] at h
    split at h
    · rw [← okT_eq h]
      show (S x.text).size + 0 ≤ _
      rw [S_size]; simp only [sumW, wS]; omega
    · have := named_weight h
      simp only [sumW]; omega
  | [x, y], h =>
    rw [wholeS] at h
    split at h
    · rw [← okT_eq h]
      show (S x.text).size + (S y.text).size ≤ _
      rw [S_size, S_size]; simp only [sumW, wS]; omega
    · cases h
  | [x, y, z], h =>
    rw [wholeS] at h
    split at h
    · unfold typedR at h
      cases hn : namedS noP z with
      | none => rw [hn] at h; cases h
      | some q =>
        rw [hn] at h
        have hq := named_weight hn
        unfold wT at hq
        simp only at h
        split at h
        · split at h
          · rw [← okT_eq h]
            show (S x.text).size + 0 ≤ _
            rw [S_size]; simp only [sumW, wS]; omega
          · rw [← okT_eq h]
            show (S x.text).size + q.2.1.size ≤ _
            rw [S_size]; simp only [sumW, wS] at *; omega
        · cases h
    · cases h
theorem read_weight {L : List Sym} {t : TermD} {n : Nat} (h : readS noP L = some (t, n)) : wT t ≤ sumW (L.take n) := by
  have ht : ∀ k, tryS noP L k = some (t, n) → wT t ≤ sumW (L.take n) := by
    intro k hk
    unfold tryS at hk
    split at hk
    · cases hw : wholeS noP (L.take k) with
      | none => rw [hw] at hk; cases hk
      | some u =>
        rw [hw] at hk
        simp only [Option.map_some, Option.some.injEq, Prod.mk.injEq] at hk
        obtain ⟨rfl, rfl⟩ := hk
        exact whole_weight hw
    · cases hk
  unfold readS at h
  cases h3 : tryS noP L 3 with
  | some r => rw [h3] at h; simp only [Option.some.injEq] at h; subst h; exact ht 3 h3
  | none =>
    rw [h3] at h
    simp only at h
    cases h2 : tryS noP L 2 with
    | some r => rw [h2] at h; simp only [Option.some.injEq] at h; subst h; exact ht 2 h2
    | none => rw [h2] at h; exact ht 1 h
def sumT : List TermD → Nat
  | [] => 0
  | a :: l => wT a + sumT l
theorem three_weight : ∀ {n : Nat} {L l : List Sym} {ts : List TermD}, threeS n L = .yes ts l → sumT ts + sumW l ≤ sumW L ∧ l.length + n ≤ L.length
  | 0, L, l, ts, h => by
    simp only [threeS, Took3.yes.injEq] at h
    obtain ⟨rfl, rfl⟩ := h
    simp [sumT]
  | n + 1, L, l, ts, h => by
    rw [threeS] at h
    cases hr : readS noP L with
    | none => rw [hr] at h; cases h
    | some x =>
      obtain ⟨t, k⟩ := x
      rw [hr] at h
      simp only at h
      cases ht : threeS n (L.drop k) with
      | no l' => rw [ht] at h; cases h
      | yes us l' =>
        rw [ht] at h
        simp only [Took3.put, Took3.yes.injEq] at h
        obtain ⟨rfl, rfl⟩ := h
        have hp := readS_pos hr
        have hw := read_weight hr
        obtain ⟨i1, i2⟩ := three_weight ht
        have hs := sumW_split L k
        rw [List.length_drop] at i2
        refine ⟨?_, by omega⟩
        show wT t + sumT us + sumW l' ≤ _
        omega
def wT3 (t : TripD) : Nat := wT t.1 + wT t.2.1 + wT t.2.2
theorem stm_weight {L l : List Sym} {t : TripD} (h : stmS L = .yes t l) : wT3 t + sumW l ≤ sumW L ∧ l.length + 4 ≤ L.length ∧ addT t = true := by
  unfold stmS at h
  cases ht : threeS 3 L with
  | no l' => rw [ht] at h; cases h
  | yes ts l' =>
    rw [ht] at h
    obtain ⟨h1, _⟩ := threeS_sub ht
    obtain ⟨w1, w2⟩ := three_weight ht
    match ts, h1 with
    | [a, b, c], _ =>
      simp only [tripS] at h
      split at h
      · rename_i had
        cases l' with
        | nil => cases h
        | cons x r =>
          rw [endS] at h
          split at h
          · simp only [Stm.yes.injEq] at h
            obtain ⟨rfl, rfl⟩ := h
            simp only [sumT, sumW, List.length_cons] at w1 w2
            exact ⟨by show wT a + wT b + wT c + _ ≤ _; omega, by omega, had⟩
          · cases h
      · cases h
def sum3 : List TripD → Nat
  | [] => 0
  | t :: l => wT3 t + sum3 l
theorem parse_weight : ∀ (f : Nat) {L : List Sym} {ts : List TripD}, L.length ≤ f → parseS L = .yes ts → sum3 ts ≤ sumW L ∧ ts.length * 4 ≤ L.length ∧ ts.all addT = true
  | f, [], ts, _, h => by
    rw [parseS_nil] at h
    cases h
    exact ⟨Nat.zero_le _, Nat.zero_le _, rfl⟩
  | 0, a :: L, ts, hf, h => by simp at hf
  | f + 1, a :: L, ts, hf, h => by
    rw [parseS_cons _ (by simp)] at h
    cases hs : stmS (a :: L) with
    | no l => rw [hs] at h; cases h
    | yes t l =>
      rw [hs] at h
      simp only at h
      cases hl : parseS l with
      | no l' => rw [hl] at h; cases h
      | yes us =>
        rw [hl] at h
        simp only [Par.put, Par.yes.injEq] at h
        subst h
        obtain ⟨w1, w2, w3⟩ := stm_weight hs
        have hlen : l.length ≤ f := by simp only [List.length_cons] at *; omega
        obtain ⟨i1, i2, i3⟩ := parse_weight f hlen hl
        refine ⟨?_, ?_, ?_⟩
        · show wT3 t + sum3 us ≤ _; omega
        · show (us.length + 1) * 4 ≤ _; omega
        · show (t :: us).all addT = true
          rw [List.all_cons, w3, i3]; rfl
theorem term_line {a : TermD} : lenD a ≤ 6 * wT a + 6 := by
  obtain ⟨k, t, x⟩ := a
  have h1 := quoteL_len (bs t)
  have h2 := bs_length t
  have h3 := bs_length x
  unfold lenD wT textL
  repeat' split
  all_goals
    try simp only [List.length_cons, List.length_append, List.length_nil]
    simp only at *
    omega
theorem texts_weight : ∀ (ts : List TripD), (textsL ts).length ≤ 6 * sum3 ts + 30 * ts.length
  | [] => by simp [textsL]
  | t :: ts => by
    have ih := texts_weight ts
    have hl := lineT_len t
    have h1 := term_line (a := t.1)
    have h2 := term_line (a := t.2.1)
    have h3 := term_line (a := t.2.2)
    have e : (textsL (t :: ts)).length = (lineT t).length + (textsL ts).length := by
      show (lineT t ++ textsL ts).length = _
      rw [List.length_append]
    rw [e, hl, List.length_cons]
    show _ ≤ 6 * (wT3 t + sum3 ts) + _
    unfold wT3
    omega
theorem sum3_mem : ∀ {ts : List TripD} {t : TripD}, t ∈ ts → wT3 t ≤ sum3 ts
  | [], t, h => by cases h
  | u :: ts, t, h => by
    show _ ≤ wT3 u + sum3 ts
    rcases List.mem_cons.1 h with rfl | h
    · omega
    · have := sum3_mem h; omega
/-- What a document of at most 3000 bytes is of. -/
theorem doc_good {a : ByteArray} (ha : a.size ≤ 3000) {x : List TripD} (h : docS a = .good x) : x.all addT = true ∧ (textsL x).length ≤ 1048576 ∧ x.length ≤ 3000 ∧ ∀ t ∈ x, FitsT t := by
  unfold docS at h
  rw [if_neg (by omega)] at h
  split at h
  · cases h
  · split at h
    · cases h
    · cases hp : parseS (allL (bs a)).1 with
      | no l => rw [hp] at h; cases h
      | yes ts =>
        rw [hp] at h
        simp only [docOf, DocR.good.injEq] at h
        subst h
        obtain ⟨w1, w2, w3⟩ := parse_weight _ (Nat.le_refl _) hp
        have w4 := toks_weight _ (bs a) 0 (Nat.le_refl _) (bs_byte a)
        have w5 := syms_few a
        have w6 := texts_weight ts
        rw [bs_length] at w4
        have w4 : sumW (allL (bs a)).1 ≤ a.size := w4
        refine ⟨w3, by omega, by omega, fun t ht => ?_⟩
        have := sum3_mem ht
        unfold wT3 wT at this
        exact ⟨⟨by omega, by omega⟩, ⟨by omega, by omega⟩, ⟨by omega, by omega⟩⟩
theorem parse_no : ∀ (f : Nat) {L l : List Sym}, L.length ≤ f → parseS L = .no l → ∃ k, l = L.drop k
  | f, [], l, _, h => by rw [parseS_nil] at h; cases h
  | 0, a :: L, l, hf, h => by simp at hf
  | f + 1, a :: L, l, hf, h => by
    rw [parseS_cons _ (by simp)] at h
    cases hs : stmS (a :: L) with
    | no l' =>
      rw [hs] at h
      cases h
      exact stmS_no hs
    | yes t l' =>
      rw [hs] at h
      simp only at h
      obtain ⟨k, rfl, hk, _⟩ := stmS_yes hs
      have hlen : ((a :: L).drop k).length ≤ f := by rw [List.length_drop]; simp only [List.length_cons] at *; omega
      cases hl : parseS ((a :: L).drop k) with
      | no q =>
        rw [hl] at h
        cases h
        obtain ⟨j, hj⟩ := parse_no f hlen hl
        exact ⟨k + j, by rw [hj, List.drop_drop]⟩
      | yes us => rw [hl] at h; cases h
theorem doc_bad_le {s : ByteArray} {p c : Nat} (h : docS s = .bad p c) : p ≤ s.size := by
  unfold docS at h
  split at h
  · simp only [DocR.bad.injEq] at h; omega
  · split at h
    · simp only [DocR.bad.injEq] at h; omega
    · split at h
      · simp only [DocR.bad.injEq] at h; omega
      · cases hp : parseS (allL (bs s)).1 with
        | no l =>
          rw [hp] at h
          simp only [docOf, DocR.bad.injEq] at h
          rw [← h.1]
          cases l with
          | nil => exact Nat.le_refl _
          | cons x r =>
            obtain ⟨k, hk⟩ := parse_no _ (Nat.le_refl _) hp
            have hx : x ∈ (allL (bs s)).1 := List.mem_of_mem_drop (i := k) (by rw [← hk]; simp)
            have := (toks_place _ (bs s) 0 (Nat.le_refl _)).1 x hx
            rw [bs_length] at this
            show x.place ≤ _
            omega
        | yes ts => rw [hp] at h; cases h
end Go.Proofs.YtachijkjcbajmaaGreatDoor
/-
  THE CONTRACT OF the law's same; append of a slice of triples behind a guard.
-/

namespace Go.Proofs.YtachijkjcbajmaaGreatDoor
open Go.RowKit
open Utf Term Lex
set_option linter.unusedVariables false
set_option linter.unusedSimpArgs false

set_option maxRecDepth 100000 in
set_option maxHeartbeats 4000000 in
theorem same5_any (v u : Value) (ds : List TripD) (w : World) (hv : SliceT w v ds) (hu : SliceT w u ds) :
    Calls Tryz.prog 22 #[v, u] w fun e w' => e = .returned (.bool true) ∧ Below w.heap.size w w' := by
  obtain ⟨p, cap, rfl, hp⟩ : ∃ p cap, v = .slice p ds.length cap ∧ ∀ k, k < ds.length → ∃ b off, p = some ⟨b, off, none⟩ ∧ RowC w b off (cellsT ds) := by
    rcases hv with ⟨rfl, rfl⟩ | ⟨b, off, cap, rfl, h1, h2, hr⟩
    · exact ⟨_, _, rfl, fun k h => absurd h (by simp)⟩
    · exact ⟨_, _, rfl, fun k h => ⟨b, off, rfl, hr⟩⟩
  obtain ⟨q, cap2, rfl, hq, hmx⟩ : ∃ p cap, u = .slice p ds.length cap ∧ (∀ k, k < ds.length → ∃ b off, p = some ⟨b, off, none⟩ ∧ RowC w b off (cellsT ds)) ∧ ds.length ≤ 9223372036854775807 := by
    rcases hu with ⟨rfl, rfl⟩ | ⟨b, off, cap, rfl, h1, h2, hr⟩
    · exact ⟨_, _, rfl, fun k h => absurd h (by simp), by simp⟩
    · exact ⟨_, _, rfl, fun k h => ⟨b, off, rfl, hr⟩, by unfold maxLen at h2; omega⟩
  have HP := Lib.hid hp
  have HQ := Lib.hid hq
  obtain ⟨n, hnn⟩ : ∃ n, n = ds.length := ⟨_, rfl⟩
  have HN := Lib.hid hnn
  rw [← hnn] at HP HQ hmx ⊢
  clear hp hq hnn hv hu
  go_enter Tryz.func22, Tryz.ntmps22
  go_wp2_with fail
  go_loopg [5] n (fun gk i wr => ∃ j q : Nat, j ≤ n ∧ n - j ≤ gk ∧ i = .int .i64 j ∧ wr = w.drewN q)
  case atStart => exact ⟨0, 0, Nat.zero_le _, by omega, rfl, rfl⟩
  case round =>
    obtain ⟨j, q, hj, hg, rfl, rfl⟩ := hrel
    by_cases hlt : j < n
    · obtain ⟨x, hx⟩ : ∃ x, ds[j]? = some x := ⟨_, List.getElem?_eq_getElem (by have := HN.out; omega)⟩
      have d1 : decide ((j : Int) < (n : Int)) = true := by simpa using hlt
      have i0 : (0 : Int) ≤ (j : Int) := by omega
      have i1 : (j : Int) < (n : Int) := by omega
      obtain ⟨g, o, rfl, nx⟩ := HP.out j hlt
      obtain ⟨g', o', rfl, ny⟩ := HQ.out j hlt
      obtain ⟨c0, c1, c2, c3, c4, c5, c6, c7, c8⟩ := nx.nine hx
      obtain ⟨e0, e1, e2, e3, e4, e5, e6, e7, e8⟩ := ny.nine hx
      have nn := trip_neq x x
      rw [decide_eq_true rfl] at nn
      clear hx nx ny
      go_wp2_with fail
      go_quiet (fail)
      go_wp2_with fail
      go_roundg (n - (j + 1))
      case measure => omega
      case rel => exact ⟨j + 1, _, by omega, Nat.le_refl _, by go_num, rfl⟩
    · obtain rfl : j = n := by omega
      have d1 : decide ((j : Int) < (j : Int)) = false := by simp
      go_wp2_with fail
      go_ret
      exact ⟨rfl, ⟨rfl, rfl, rfl, Nat.le_refl _, fun _ _ => rfl⟩⟩

section
variable {w : World} {ops : Array Oper} {rest : List Oper} {o : Oper} {a : Act} {Q : Exit → Act → World → Prop}
theorem wpList_append_sliceG (hgd : Region.wanted o (yielded ops a.tmps) = true) (s x : Operand) (ho : o.op = .call { callee := .builtin .append, args := #[s, x], argTypes := #[45, 45] })
    (base : Nat) (vb : Value) (bs : List TripD) (hs : a.eval s = vb) (hown : w.ownsRow base 51 9 vb bs.length (cellsT bs)) (v : Value) (ds : List TripD) (hx : a.eval x = v) (hv : SliceT w v ds)
    (hb : bs.length ≤ 1000000000) (hd : ds.length ≤ 1000000000) (hbase : base ≤ w.heap.size)
    (h : ∀ v' w', w'.ownsRow base 51 9 v' (bs ++ ds).length (cellsT (bs ++ ds)) → Below base w w' → wpList Tryz.prog ops Q rest (a.put o.dst v') w') : wpList Tryz.prog ops Q (o :: rest) a w := by
  refine wpList_step fun K hK => ?_
  rw [if_pos hgd]
  obtain ⟨v', w', hrun, r1, r2⟩ := run_append_slice w o.type base vb bs hown v ds hv hb hd hbase
  unfold Oper.wp
  simp [execOp, ho, resolve, invoke, builtin, hs, hx, hrun, Result.andThen]
  exact hK _ _ (h v' w' r1 r2)
end
end Go.Proofs.YtachijkjcbajmaaGreatDoor
/-
  THE WALK OF TripleMeans.
-/

namespace Go.Proofs.YtachijkjcbajmaaGreatDoor
open Go.RowKit
open Utf Term Lex
set_option linter.unusedVariables false
set_option linter.unusedSimpArgs false

set_option maxRecDepth 100000 in
set_option maxHeartbeats 16000000 in
theorem tripleMeans_walk (v : Value) (ds : List TripD) (a b : ByteArray) (w : World) (hv : SliceT w v ds) (he : LexEnv w) (hrp : Hrp w.heap.size) :
    Calls Tryz.prog 6 #[v, .string a, .string b] w fun e w' => e = .returned (.bool true) ∧ Below w.heap.size w w' := by
  have HK := Lib.hid (known5_any w he hrp)
  have HM := Lib.hid (fun W (h : Below w.heap.size w W) => much_nt v ds 60 (by decide) W (hv.below h))
  have HP := Lib.hid (fun s (hs : s.size ≤ 1000000000) W (h : Below w.heap.size w W) => ntParse_any s hs W (he.below h) (hrp.le h.size))
  have HT := Lib.hid (fun u ts hn hf W (h : Below w.heap.size w W) hu => ntText_any u ts hn hf W hu (he.below h))
  have HV := Lib.hid hv
  clear hv he hrp
  go_enter Tryz.func6, Tryz.ntmps6
  go_upto_region 3 with (go_at_call 18; refine HK.out.mono ?_; rintro e y0 ⟨rfl, hY0⟩)
  have HB0 := Lib.hid hY0
  have HM0 := Lib.hid (HM.out y0 hY0)
  clear hY0 HK HM
  by_cases ha : 3000 < a.size
  · have d1 : decide ((3000 : Int) < (a.size : Int)) = true := by simp; omega
    go_wp2_with (go_at_call 24; refine HM0.out.mono ?_; rintro e y ⟨r, rfl, hr, hY⟩)
    all_goals
      go_ret
      exact ⟨rfl, HB0.out.trans (hY.mono HB0.out.size)⟩
  by_cases hb : 3000 < b.size
  · have d1 : decide ((3000 : Int) < (a.size : Int)) = false := by simp; omega
    have d2 : decide ((3000 : Int) < (b.size : Int)) = true := by simp; omega
    go_wp2_with (go_at_call 24; refine HM0.out.mono ?_; rintro e y ⟨r, rfl, hr, hY⟩)
    all_goals
      go_ret
      exact ⟨rfl, HB0.out.trans (hY.mono HB0.out.size)⟩
  have d1 : decide ((3000 : Int) < (a.size : Int)) = false := by simp; omega
  have d2 : decide ((3000 : Int) < (b.size : Int)) = false := by simp; omega
  have ha' : a.size ≤ 3000 := by omega
  have hb' : b.size ≤ 3000 := by omega
  clear ha hb
  go_upto_if 39 with (go_at_call 24; refine HM0.out.mono ?_; rintro e y ⟨r, rfl, hr, hY⟩)
  · go_wp2_with fail
    go_ret
    exact ⟨rfl, HB0.out.trans (hY.mono HB0.out.size)⟩
  obtain ⟨h60, hsm⟩ := hr (by assumption)
  have HB1 := Lib.hid (HB0.out.trans (hY.mono HB0.out.size))
  have HTy := Lib.hid (HT.out v ds (by omega) (fun t ht => (hsm t ht).fits) y HB1.out (HV.out.below HB1.out))
  have HTe : Hid ((textR ds).2 = 0 → docS (textR ds).1 = .good ds ∧ (textR ds).1.size ≤ 1000000000) := Lib.hid (fun h => by
    unfold textR at *
    by_cases h1 : ds.all addT = true
    · rw [if_pos h1] at h ⊢
      by_cases h2 : 1048576 < (textsL ds).length
      · rw [if_pos h2] at h; cases h
      · rw [if_neg h2]
        exact ⟨doc_text h1 (by omega), by show (strOfNums (textsL ds)).size ≤ _; rw [strOfNums_size]; omega⟩
    · rw [if_neg h1] at h; cases h)
  clear hY HM0 HB0 hr hsm
  generalize textR ds = TR at *
  obtain ⟨T, n⟩ := TR
  go_upto_if 47 with (first | (go_at_call 25; refine HTy.out.mono ?_; rintro e z ⟨rfl, hZ⟩) | (go_at_call 23; refine (num5_any _ _).mono ?_; rintro e x ⟨rfl, rfl⟩))
  have HB2 := Lib.hid (HB1.out.trans (hZ.mono HB1.out.size))
  clear hZ HB1 HTy
  go_cut [] (fun wx => Below w.heap.size w wx)
  case first => as_aux_lemma =>
    by_cases hn : n = 0
    · subst hn
      obtain ⟨hd, hsz⟩ := HTe.out rfl
      have HPz := HP.out T hsz z HB2.out
      rw [show docS T = .good ds from hd] at HPz
      have HPz := Lib.hid HPz
      clear hd hsz HTe
      go_upto_region 8 with (go_at_call 19; refine HPz.out.mono ?_; rintro e z1 ⟨hZ, m, rfl, ho⟩)
      have HB3 := Lib.hid (HB2.out.trans (hZ.mono HB2.out.size))
      have HS := Lib.hid (same5_any v m ds z1 (HV.out.below HB3.out) (owns_slice ho))
      clear hZ ho HPz
      go_wp2_with (first | (go_at_call 23; refine (num5_any _ _).mono ?_; rintro e x ⟨rfl, rfl⟩) | (go_at_call 22; refine HS.out.mono ?_; rintro e z2 ⟨rfl, hZ⟩))
      go_meet
      exact HB3.out.trans (hZ.mono HB3.out.size)
    · have d3 : (n == 0) = false := by simpa using hn
      go_wp2_with fail
      go_meet
      exact HB2.out
  case rest =>
    have HBc := Lib.hid hcut
    clear hcut HB2 HTe
    have HPa := Lib.hid (HP.out a (by omega) wc HBc.out)
    have hz1 : (a ++ (⟨#[10]⟩ : ByteArray) ++ b).size ≤ 1000000000 := by rw [ByteArray.size_append, ByteArray.size_append]; show a.size + 1 + b.size ≤ _; omega
    have hz2 : ¬ 9223372036854775807 < a.size + 1 := by omega
    have hz3 : ¬ 9223372036854775807 < a.size + 1 + b.size := by omega
    cases hda : docS a with
    | bad p c =>
      rw [hda] at HPa
      have hc := docS_bad hda
      have d3 : ((c : Int) != 0) = true := by rw [bne_iff_ne]; omega
      clear hda
      go_wp2_with (first | (go_at_call 19; refine HPa.out.mono ?_; rintro e z1 ⟨hZ, rfl⟩) | (go_at_call 23; refine (num5_any _ _).mono ?_; rintro e x ⟨rfl, rfl⟩))
      go_ret
      exact ⟨rfl, HBc.out.trans (hZ.mono HBc.out.size)⟩
    | good x =>
      rw [hda] at HPa
      obtain ⟨g1, g2, g3, g4⟩ := doc_good ha' hda
      have HJ := Lib.hid (doc_joined ha' hb' hda)
      have hdt := doc_text g1 g2
      have hts : textR x = (strOfNums (textsL x), 0) := by unfold textR; rw [if_pos g1, if_neg (by omega)]
      have hsz : (strOfNums (textsL x)).size ≤ 1000000000 := by rw [strOfNums_size]; omega
      have HTx := Lib.hid (fun u W h hu => HT.out u x (by omega) g4 W h hu)
      rw [hts] at HTx
      have HPt := Lib.hid (fun W h => HP.out (strOfNums (textsL x)) hsz W h)
      rw [hdt] at HPt
      have hx3 : x.length ≤ 3000 := g3
      clear hda g1 g2 g3 g4 hdt hts hsz HT
      generalize strOfNums (textsL x) = TX at *
      go_upto_region 13 with (first | (go_at_call 19; refine HPa.out.mono ?_; rintro e z1 ⟨hZ, vx, rfl, hox⟩) | (go_at_call 23; refine (num5_any _ _).mono ?_; rintro e x ⟨rfl, rfl⟩))
      have HB3 := Lib.hid (HBc.out.trans (hZ.mono HBc.out.size))
      have HSx := Lib.hid (owns_slice hox)
      have HTz := Lib.hid (HTx.out vx z1 HB3.out (owns_slice hox))
      clear hZ hox HPa HTx
      go_upto_region 14 with (go_at_call 25; refine HTz.out.mono ?_; rintro e z2 ⟨rfl, hZ⟩)
      have HB4 := Lib.hid (HB3.out.trans (hZ.mono HB3.out.size))
      have HSx4 := Lib.hid (HSx.out.below hZ)
      have HPy := Lib.hid (HPt.out z2 HB4.out)
      clear hZ HTz HSx HB3 HPt
      go_upto_region 15 with (go_at_call 19; refine HPy.out.mono ?_; rintro e z3 ⟨hZ, vy, rfl, hoy⟩)
      have HB5 := Lib.hid (HB4.out.trans (hZ.mono HB4.out.size))
      have HSx5 := Lib.hid (HSx4.out.below hZ)
      have HSm := Lib.hid (same5_any vx vy x z3 HSx5.out (owns_slice hoy))
      clear hZ hoy HPy HSx4 HB4
      go_upto_region 17 with (first | (go_at_call 23; refine (num5_any _ _).mono ?_; rintro e x ⟨rfl, rfl⟩) | (go_at_call 22; refine HSm.out.mono ?_; rintro e z4 ⟨rfl, hZ⟩))
      have HB6 := Lib.hid (HB5.out.trans (hZ.mono HB5.out.size))
      have HSx6 := Lib.hid (HSx5.out.below hZ)
      have HPj := Lib.hid (HP.out (a ++ (⟨#[10]⟩ : ByteArray) ++ b) hz1 z4 HB6.out)
      rw [HJ.out] at HPj
      have HPb := Lib.hid (fun W h => HP.out b (by omega) W h)
      clear hZ HSm HSx5 HB5 HJ HP hz1
      cases hdb : docS b with
      | bad p c =>
        rw [hdb] at HPj HPb
        have hc := docS_bad hdb
        have hp := doc_bad_le hdb
        have d3 : ((c : Int) != 0) = true := by rw [bne_iff_ne]; omega
        have w1 : IntKind.i64.wrap ((p : Int) + (a.size : Int)) = (p : Int) + (a.size : Int) := IntWalk.i64_in _ (by omega)
        have w2 : IntKind.i64.wrap ((p : Int) + (a.size : Int) + 1) = (p : Int) + (a.size : Int) + 1 := IntWalk.i64_in _ (by omega)
        obtain ⟨P, hP⟩ : ∃ P : Int, P = ((p + (a.size + 1) : Nat) : Int) := ⟨_, rfl⟩
        have e5 : (P == (p : Int) + (a.size : Int) + 1) = true := by rw [beq_iff_eq, hP]; omega
        have HPj' : Hid (Calls Tryz.prog 19 #[.string (a ++ (⟨#[10]⟩ : ByteArray) ++ b)] z4 fun e w' => e = .returned (.tuple #[.slice none 0 0, .int .i64 P, .int .i64 c]) ∧ Below z4.heap.size z4 w') := Lib.hid (HPj.out.mono fun e w' h => by rw [hP]; exact ⟨h.2, h.1⟩)
        clear hdb HPj hP
        go_upto_region 18 with (go_at_call 19; refine HPj'.out.mono ?_; rintro e z5 ⟨rfl, hZ⟩)
        have HB7 := Lib.hid (HB6.out.trans (hZ.mono HB6.out.size))
        have HPq := Lib.hid (HPb.out z5 HB7.out)
        clear hZ HPb HPj'
        go_wp2_with (first | (go_at_call 19; refine HPq.out.mono ?_; rintro e z6 ⟨hZ, rfl⟩) | (go_at_call 23; refine (num5_any _ _).mono ?_; rintro e x ⟨rfl, rfl⟩))
        go_ret
        exact ⟨rfl, HB7.out.trans (hZ.mono HB7.out.size)⟩
      | good y =>
        rw [hdb] at HPj HPb
        have hy3 : y.length ≤ 3000 := (doc_good hb' hdb).2.2.1
        clear hdb
        go_upto_region 18 with (go_at_call 19; refine HPj.out.mono ?_; rintro e z5 ⟨hZ, vz, rfl, hoz⟩)
        have HB7 := Lib.hid (HB6.out.trans (hZ.mono HB6.out.size))
        have HSx7 := Lib.hid (HSx6.out.below hZ)
        have HSz := Lib.hid (owns_slice hoz)
        have HPq := Lib.hid (HPb.out z5 HB7.out)
        clear hZ HPb HPj HB6 HSx6 hoz
        go_upto_region 19 with (go_at_call 19; refine HPq.out.mono ?_; rintro e z6 ⟨hZ, vw, rfl, how⟩)
        have HB8 := Lib.hid (HB7.out.trans (hZ.mono HB7.out.size))
        have HSx8 := Lib.hid (HSx7.out.below hZ)
        have HSz8 := Lib.hid (HSz.out.below hZ)
        have HSw := Lib.hid (owns_slice how)
        clear hZ how HPq HSx7 HSz HB7
        go_wp2_with (first
          | (go_at_call 23; refine (num5_any _ _).mono ?_; rintro e x ⟨rfl, rfl⟩)
          | (go_at_call 22; refine (same5_any _ _ _ _ (HSz8.out.below (hB2.trans hB3)) (owns_slice hown3)).mono ?_; rintro e z7 ⟨rfl, hB4⟩)
          | (at_builtin; refine wpList_append_sliceG (by rfl) _ _ rfl z6.heap.size _ x rfl hown2 _ y rfl (HSw.out.below hB2) (by omega) (by omega) hB2.size ?_; intro vt w3 hown3 hB3)
          | (at_builtin; refine wpList_append_sliceG (by rfl) _ _ rfl z6.heap.size _ [] rfl (World.ownsRow_nil _ _ _ _) vx x rfl HSx8.out (by simp) (by omega) (Nat.le_refl _) ?_; intro vo w2 hown2 hB2))
        go_ret
        have hB23 := hB2.trans hB3
        exact ⟨rfl, HB8.out.trans ((hB23.trans (hB4.mono hB23.size)).mono HB8.out.size)⟩
end Go.Proofs.YtachijkjcbajmaaGreatDoor
