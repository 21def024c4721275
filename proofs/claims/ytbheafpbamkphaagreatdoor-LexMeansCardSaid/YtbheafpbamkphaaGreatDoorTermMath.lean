/-
  PLAIN MATHEMATICS: which runes may stand where; what stands for a rune in quotes.
-/
import Derived.Test.YtbheafpbamkphaaGreatDoorUtfText
namespace Go.Proofs.YtbheafpbamkphaaGreatDoor.Term
open Utf

def small (c : Int) : Bool := decide (97 ≤ c) && decide (c ≤ 122)
def digit (c : Int) : Bool := decide (48 ≤ c) && decide (c ≤ 57)
def smallDigit (c : Int) : Bool := small c || digit c
def letter (c : Int) : Bool := small c || (decide (65 ≤ c) && decide (c ≤ 90))
def letterDigit (c : Int) : Bool := letter c || digit c
def notIRI : List Int := [60, 62, 34, 123, 125, 124, 94, 96, 92]
def iriC (c : Int) : Bool := decide (32 < c) && !notIRI.contains c

/-- A predicate that is the same from 128 on. -/
def High (P : Int → Bool) (x : Bool) : Prop := ∀ c, 128 ≤ c → P c = x
theorem small_high : High small false := fun c h => by simp [small]; omega
theorem digit_high : High digit false := fun c h => by simp [digit]; omega
theorem smallDigit_high : High smallDigit false := fun c h => by rw [smallDigit, small_high c h, digit_high c h]; rfl
theorem letter_high : High letter false := fun c h => by simp [letter, small]; omega
theorem letterDigit_high : High letterDigit false := fun c h => by rw [letterDigit, letter_high c h, digit_high c h]; rfl
theorem iriC_high : High iriC true := fun c h => by simp [iriC, notIRI]; omega

theorem enc_high {r : Int} (h : May r) (hr : 128 ≤ r) : ∀ c ∈ enc r, 128 ≤ c := by
  intro c hc
  obtain ⟨h0, h1, h2⟩ := h
  unfold enc at hc
  split at hc
  · omega
  · split at hc
    · simp at hc; omega
    · split at hc
      · simp at hc; omega
      · simp at hc; omega
theorem enc_ne (r : Int) : enc r ≠ [] := by
  unfold enc
  repeat' split
  all_goals simp
theorem enc_low {r : Int} (h1 : r ≤ 127) : enc r = [r] := by
  unfold enc; rw [if_pos h1]

/-- Over a rune's bytes such a predicate holds just where it holds of the rune. -/
theorem all_enc {P : Int → Bool} {x : Bool} (hP : High P x) {r : Int} (h : May r) : (enc r).all P = P r := by
  by_cases h1 : r ≤ 127
  · rw [enc_low h1]; simp
  · have hh := enc_high h (by omega)
    rw [hP r (by omega)]
    cases e : enc r with
    | nil => exact absurd e (enc_ne r)
    | cons c t =>
      rw [e] at hh
      have : ∀ d ∈ c :: t, P d = x := fun d hd => hP d (hh d hd)
      cases x with
      | true => rw [List.all_eq_true]; exact this
      | false => simp [this c (by simp)]

theorem all_encs {P : Int → Bool} {x : Bool} (hP : High P x) : ∀ {rs : List Int}, AllMay rs → (encs rs).all P = rs.all P
  | [], _ => rfl
  | r :: rs, h => by
    rw [encs_cons, List.all_append, all_enc hP h.head, all_encs hP h.tail, List.all_cons]

/-- Whether each rune may stand there, and the text is well made. -/
def eachB (P : Int → Bool) (l : List Int) : Bool := (allR l).all (fun x => P x.1.2) && valid l
theorem eachB_eq {P : Int → Bool} {x : Bool} (hP : High P x) {l : List Int} (hl : l.length ≤ 1000000000000) : eachB P l = (valid l && l.all P) := by
  unfold eachB
  cases e : valid l with
  | false => simp
  | true =>
    obtain ⟨rs, hrs, rfl⟩ := (valid_iff hl).1 e
    rw [all_encs hP hrs]
    have h1 := congrArg (fun l => l.all fun y : Nat × Int => P y.2) (allR_encs hrs hl)
    simp only [List.all_map] at h1
    have h2 : (posR 0 rs).all (fun y => P y.2) = rs.all P := by
      conv => rhs; rw [← posR_snd rs 0]
      rw [List.all_map]; rfl
    simp only [Bool.true_and, Bool.and_true]
    rw [← h2, ← h1]
    rfl

/-- Text of bytes below 128 is well made. -/
theorem valid_ascii {l : List Int} (hl : l.length ≤ 1000000000000) (h : ∀ c ∈ l, 0 ≤ c ∧ c ≤ 127) : valid l = true := by
  refine (valid_iff hl).2 ⟨l, fun c hc => ?_, ?_⟩
  · have := h c hc; unfold May; omega
  · clear hl
    induction l with
    | nil => rfl
    | cons c t ih =>
      rw [encs_cons, enc_low (h c (by simp)).2, ← ih (fun d hd => h d (by simp [hd]))]
      rfl
theorem eachB_low {P : Int → Bool} (hP : High P false) {l : List Int} (hl : l.length ≤ 1000000000000) (hb : ∀ c ∈ l, IsByte c) : eachB P l = l.all P := by
  rw [eachB_eq hP hl]
  cases e : l.all P with
  | false => simp
  | true =>
    rw [valid_ascii hl]
    · rfl
    · intro c hc
      have h1 := List.all_eq_true.1 e c hc
      have h2 := hb c hc
      unfold IsByte at h2
      by_cases h3 : 128 ≤ c
      · rw [hP c h3] at h1; cases h1
      · omega

/-- What stands for a rune in quotes; nothing if it stands for itself. -/
def hex (n : Int) : Int := if n ≤ 9 then 48 + n else 55 + n
def esc (r : Int) : List Int :=
  if r = 34 then [92, 34] else if r = 92 then [92, 92] else if r = 8 then [92, 98] else if r = 9 then [92, 116] else if r = 10 then [92, 110]
  else if r = 12 then [92, 102] else if r = 13 then [92, 114] else if r < 32 ∨ r = 127 then [92, 117, 48, 48, hex (r / 16), hex (r % 16)] else []
/-- .. with what stands for itself. -/
def shown (c : Int) : List Int := if esc c = [] then [c] else esc c
def quoteL (l : List Int) : List Int := 34 :: (l.flatMap shown ++ [34])
end Go.Proofs.YtbheafpbamkphaaGreatDoor.Term
