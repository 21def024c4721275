/-
  WHAT THE PROOF STANDS ON, a part of it: UtfMath, UtfEncs.
-/
import GoSem.Core.Value
/-
  PLAIN MATHEMATICS OF LAYER 1 (runes as bytes), over lists of numbers; no program is named here but for the import of Rows' own ground.
-/

namespace Go.Proofs.YtlkiigoblkfkpaaGreatDoor.Utf

/-- A rune. -/
def May (r : Int) : Prop := 0 ≤ r ∧ r ≤ 1114111 ∧ (r < 55296 ∨ 57343 < r)
instance (r : Int) : Decidable (May r) := by unfold May; infer_instance

/-- How many bytes; 0: no rune. -/
def rsize (r : Int) : Nat := if May r then (if r ≤ 127 then 1 else if r ≤ 2047 then 2 else if r ≤ 65535 then 3 else 4) else 0

/-- The bytes of a rune. -/
def enc (r : Int) : List Int :=
  if r ≤ 127 then [r] else if r ≤ 2047 then [192 + r / 64, 128 + r % 64] else if r ≤ 65535 then [224 + r / 4096, 128 + r / 64 % 64, 128 + r % 64]
  else [240 + r / 262144, 128 + r / 4096 % 64, 128 + r / 64 % 64, 128 + r % 64]

/-- What the first byte bears, and how many it announces. -/
def lead (c : Int) : Int × Nat := if c ≤ 127 then (c, 1) else if c < 192 then (0, 0) else if c < 224 then (c - 192, 2) else if c < 240 then (c - 224, 3) else if c < 248 then (c - 240, 4) else (0, 0)

/-- A further byte. -/
def isCont (c : Int) : Bool := decide (128 ≤ c ∧ c < 192)

def fold (r : Int) (l : List Int) : Int := l.foldl (fun r c => r * 64 + (c - 128)) r

/-- The rune that bytes begin with, and how many bytes it has; 0: none. -/
def dec : List Int → Int × Nat
  | [] => (0, 0)
  | c :: l =>
    if (lead c).2 = 0 ∨ l.length + 1 < (lead c).2 then (0, 0)
    else if (l.take ((lead c).2 - 1)).all isCont = true then
      if rsize (fold (lead c).1 (l.take ((lead c).2 - 1))) = (lead c).2 then (fold (lead c).1 (l.take ((lead c).2 - 1)), (lead c).2) else (0, 0)
    else (0, 0)

def IsByte (c : Int) : Prop := 0 ≤ c ∧ c ≤ 255

theorem rsize_enc {r : Int} (h : May r) : rsize r = (enc r).length := by
  unfold rsize enc
  rw [if_pos h]
  repeat' split
  all_goals rfl

theorem rsize_pos {r : Int} : 0 < rsize r ↔ May r := by
  unfold rsize
  constructor
  · intro h; by_cases hm : May r
    · exact hm
    · rw [if_neg hm] at h; omega
  · intro h; rw [if_pos h]; repeat' split
    all_goals omega

theorem rsize_le (r : Int) : rsize r ≤ 4 := by
  unfold rsize; repeat' split
  all_goals omega

theorem may_of_size {r : Int} {n : Nat} (h : rsize r = n) (hn : n ≠ 0) : May r := rsize_pos.1 (by omega)

theorem lead_cases (c : Int) : (c ≤ 127 ∧ lead c = (c, 1)) ∨ (192 ≤ c ∧ c < 224 ∧ lead c = (c - 192, 2)) ∨ (224 ≤ c ∧ c < 240 ∧ lead c = (c - 224, 3)) ∨ (240 ≤ c ∧ c < 248 ∧ lead c = (c - 240, 4)) ∨ lead c = (0, 0) := by
  unfold lead
  repeat' split
  all_goals first | (left; exact ⟨by omega, rfl⟩) | (right; left; exact ⟨by omega, by omega, rfl⟩) | (right; right; left; exact ⟨by omega, by omega, rfl⟩) | (right; right; right; left; exact ⟨by omega, by omega, rfl⟩) | (right; right; right; right; rfl)

theorem isCont_iff {c : Int} : isCont c = true ↔ 128 ≤ c ∧ c < 192 := by simp [isCont]

/-- The forms of what is read. -/
inductive Reads : List Int → Int → Nat → Prop
  | one (c : Int) (l : List Int) (h : c ≤ 127) (hr : rsize c = 1) : Reads (c :: l) c 1
  | two (c d : Int) (l : List Int) (h : 192 ≤ c ∧ c < 224) (hd : 128 ≤ d ∧ d < 192) (r : Int) (e : r = (c - 192) * 64 + (d - 128)) (hr : rsize r = 2) : Reads (c :: d :: l) r 2
  | three (c d f : Int) (l : List Int) (h : 224 ≤ c ∧ c < 240) (hd : 128 ≤ d ∧ d < 192) (hf : 128 ≤ f ∧ f < 192) (r : Int) (e : r = ((c - 224) * 64 + (d - 128)) * 64 + (f - 128)) (hr : rsize r = 3) : Reads (c :: d :: f :: l) r 3
  | four (c d f g : Int) (l : List Int) (h : 240 ≤ c ∧ c < 248) (hd : 128 ≤ d ∧ d < 192) (hf : 128 ≤ f ∧ f < 192) (hg : 128 ≤ g ∧ g < 192) (r : Int) (e : r = (((c - 240) * 64 + (d - 128)) * 64 + (f - 128)) * 64 + (g - 128)) (hr : rsize r = 4) : Reads (c :: d :: f :: g :: l) r 4

theorem dec_eq (c : Int) (l : List Int) : dec (c :: l) =
    if (lead c).2 = 0 ∨ l.length + 1 < (lead c).2 then (0, 0)
    else if (l.take ((lead c).2 - 1)).all isCont = true then
      if rsize (fold (lead c).1 (l.take ((lead c).2 - 1))) = (lead c).2 then (fold (lead c).1 (l.take ((lead c).2 - 1)), (lead c).2) else (0, 0)
    else (0, 0) := rfl

theorem dec_reads {l : List Int} {r : Int} {n : Nat} (h : dec l = (r, n)) (hn : n ≠ 0) : Reads l r n := by
  have fin : ∀ {x : Int}, ((0 : Int), 0) = (x, n) → False := fun e => hn (Prod.mk.inj e).2.symm
  cases l with
  | nil => exact (fin h).elim
  | cons c l =>
    rw [dec_eq] at h
    rcases lead_cases c with ⟨h1, e⟩ | ⟨h1, h2, e⟩ | ⟨h1, h2, e⟩ | ⟨h1, h2, e⟩ | e
    all_goals rw [e] at h
    all_goals (split at h; exact (fin h).elim; rename_i q0)
    all_goals (split at h; rotate_left; exact (fin h).elim)
    all_goals (split at h; rotate_left; exact (fin h).elim)
    all_goals (rename_i a b; obtain ⟨rfl, rfl⟩ := Prod.mk.inj h; clear h)
    · clear a
      exact .one _ _ h1 (by simpa [fold] using b)
    · match l, q0, a, b with
      | d :: l, q0, a, b =>
        simp [isCont_iff] at a
        exact .two c d l ⟨h1, h2⟩ a _ rfl (by simpa [fold] using b)
      | [], q0, _, _ => simp at q0
    · match l, q0, a, b with
      | d :: f :: l, q0, a, b =>
        simp [isCont_iff] at a
        exact .three c d f l ⟨h1, h2⟩ a.1 a.2 _ rfl (by simpa [fold] using b)
      | [d], q0, _, _ => simp at q0
      | [], q0, _, _ => simp at q0
    · match l, q0, a, b with
      | d :: f :: g :: l, q0, a, b =>
        simp [isCont_iff] at a
        exact .four c d f g l ⟨h1, h2⟩ a.1 a.2.1 a.2.2 _ rfl (by simpa [fold] using b)
      | [d, f], q0, _, _ => simp at q0
      | [d], q0, _, _ => simp at q0
      | [], q0, _, _ => simp at q0
    · simp at q0

theorem rsize_eq {r : Int} : (rsize r = 1 ↔ 0 ≤ r ∧ r ≤ 127) ∧ (rsize r = 2 ↔ 128 ≤ r ∧ r ≤ 2047) ∧ (rsize r = 3 ↔ 2048 ≤ r ∧ r ≤ 65535 ∧ (r < 55296 ∨ 57343 < r)) ∧ (rsize r = 4 ↔ 65536 ≤ r ∧ r ≤ 1114111) := by
  by_cases h : May r
  · unfold rsize
    rw [if_pos h]
    unfold May at h
    refine ⟨?_, ?_, ?_, ?_⟩
    all_goals (repeat' split)
    all_goals omega
  · unfold rsize
    rw [if_neg h]
    unfold May at h
    omega

/-- What was read is a rune, and its bytes stand there. -/
theorem reads_enc {l : List Int} {r : Int} {n : Nat} (h : Reads l r n) : May r ∧ n = rsize r ∧ enc r <+: l := by
  have key : rsize r = n := by cases h <;> assumption
  have hn : n ≠ 0 := by cases h <;> decide
  refine ⟨may_of_size key hn, key.symm, ?_⟩
  obtain ⟨s1, s2, s3, s4⟩ := rsize_eq (r := r)
  cases h with
  | one c l h hr => have := s1.1 hr; exact ⟨l, by unfold enc; rw [if_pos h]; rfl⟩
  | two c d l h hd r e hr => have := s2.1 hr; exact ⟨l, by unfold enc; rw [if_neg (by omega), if_pos (by omega)]; simp; omega⟩
  | three c d f l h hd hf r e hr => have := s3.1 hr; exact ⟨l, by unfold enc; rw [if_neg (by omega), if_neg (by omega), if_pos (by omega)]; simp; omega⟩
  | four c d f g l h hd hf hg r e hr => have := s4.1 hr; exact ⟨l, by unfold enc; rw [if_neg (by omega), if_neg (by omega), if_neg (by omega)]; simp; omega⟩

theorem dec_some {l : List Int} {r : Int} {n : Nat} (h : dec l = (r, n)) (hn : n ≠ 0) : May r ∧ n = rsize r ∧ enc r <+: l := reads_enc (dec_reads h hn)

theorem dec_zero {l : List Int} (h : (dec l).2 = 0) : dec l = (0, 0) := by
  cases l with
  | nil => rfl
  | cons c l =>
    rw [dec_eq] at h ⊢
    split
    · rfl
    · rename_i q
      rw [if_neg q] at h
      split
      · rename_i a
        rw [if_pos a] at h
        split
        · rename_i b
          rw [if_pos b] at h
          exact absurd (Or.inl h) q
        · rfl
      · rfl

theorem dec_bad {c b0 : Int} {n : Nat} {l : List Int} (hl : lead c = (b0, n)) {k : Nat} {d : Int} (hk : k + 1 < n) (hd : l[k]? = some d) (hc : isCont d = false) : dec (c :: l) = (0, 0) := by
  rw [dec_eq, hl]
  split
  · rfl
  · rw [if_neg]
    intro h
    rw [List.all_eq_true] at h
    have hkl : k < l.length := (List.getElem?_eq_some_iff.1 hd).1
    have := h d (by
      have e : (l.take (n - 1))[k]? = some d := by rw [List.getElem?_take_of_lt (by omega)]; exact hd
      exact List.mem_of_getElem? e)
    rw [hc] at this
    exact absurd this (by decide)

theorem dec_short {c b0 : Int} {n : Nat} {l : List Int} (hl : lead c = (b0, n)) (h : n = 0 ∨ l.length + 1 < n) : dec (c :: l) = (0, 0) := by
  rw [dec_eq, hl, if_pos h]

theorem dec_done {c b0 : Int} {n : Nat} {l : List Int} (hl : lead c = (b0, n)) (h0 : n ≠ 0) (h1 : n ≤ l.length + 1) (ha : (l.take (n - 1)).all isCont = true) :
    dec (c :: l) = if rsize (fold b0 (l.take (n - 1))) = n then (fold b0 (l.take (n - 1)), n) else (0, 0) := by
  rw [dec_eq, hl, if_neg (by omega), if_pos ha]

theorem fold_snoc (b0 : Int) (l : List Int) (k : Nat) {d : Int} (h : l[k]? = some d) : fold b0 (l.take (k + 1)) = fold b0 (l.take k) * 64 + (d - 128) := by
  rw [List.take_add_one, h]
  simp [fold]

theorem all_snoc (l : List Int) (k : Nat) {d : Int} (h : l[k]? = some d) (ha : (l.take k).all isCont = true) (hd : isCont d = true) : (l.take (k + 1)).all isCont = true := by
  rw [List.take_add_one, h, List.all_append, ha]
  simp [hd]

theorem lead_bd {c : Int} (h : IsByte c) {b0 : Int} {n : Nat} (hl : lead c = (b0, n)) : 0 ≤ b0 ∧ b0 ≤ 127 ∧ n ≤ 4 := by
  unfold IsByte at h
  rcases lead_cases c with ⟨h1, e⟩ | ⟨h1, h2, e⟩ | ⟨h1, h2, e⟩ | ⟨h1, h2, e⟩ | e
  all_goals (rw [hl] at e; obtain ⟨rfl, rfl⟩ := Prod.mk.inj e; omega)

def getErr (n : Nat) : Int := if n = 0 then 4 else 0

theorem dec_le (l : List Int) : (dec l).2 ≤ l.length ∧ (dec l).2 ≤ 4 := by
  by_cases hn : (dec l).2 = 0
  · omega
  · obtain ⟨a, b, c⟩ := dec_some (r := (dec l).1) (n := (dec l).2) rfl hn
    rw [b]
    refine ⟨?_, rsize_le _⟩
    rw [rsize_enc a]
    exact c.length_le

end Go.Proofs.YtlkiigoblkfkpaaGreatDoor.Utf

/-
  PLAIN MATHEMATICS: the bytes of runes.
-/

namespace Go.Proofs.YtlkiigoblkfkpaaGreatDoor
namespace Utf
def encs (l : List Int) : List Int := l.flatMap enc
def AllMay (l : List Int) : Prop := ∀ r ∈ l, May r
theorem AllMay.at {zs : List Int} (ha : AllMay zs) {k : Nat} (h : k < zs.length) : May (zs[k]?.getD 0) := by
  simp only [List.getElem?_eq_getElem h, Option.getD_some]
  exact ha _ (List.getElem_mem h)
end Utf
end Go.Proofs.YtlkiigoblkfkpaaGreatDoor

