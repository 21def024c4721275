/-
  PLAIN MATHEMATICS OF LAYER 4: symbols of texts, over lists of numbers.
-/
import Derived.Test.YtbheafpbamkphaaGreatDoorTagMath
namespace Go.Proofs.YtbheafpbamkphaaGreatDoor.Lex
open Utf Term

/-- What may be between symbols: how many bytes (true: within a comment). -/
def isWS (c : Int) : Bool := decide (c = 9) || decide (c = 10) || decide (c = 13) || decide (c = 32)
def sk : Bool → List Int → Nat
  | _, [] => 0
  | true, c :: l => if c = 10 then 1 + sk false l else 1 + sk true l
  | false, c :: l => if isWS c = true then 1 + sk false l else if c = 35 then 1 + sk true l else 0

def spanL (p : Int → Bool) (l : List Int) : Nat := (l.takeWhile p).length
def localC (c : Int) : Bool := letterDigit c || decide (c = 45) || decide (c = 95)
def langC (c : Int) : Bool := small c || digit c || decide (c = 45)
def isWordL (l : List Int) : Bool := decide (0 < l.length) && decide (l.length ≤ 32) && !digit (l.headD 0)

structure Sym where
  kind : Nat
  text : List Int
  tk : Nat
  tt : List Int
  te : List Int
  place : Nat
deriving DecidableEq

inductive Took where
  | no | bad
  | got (x : Sym) (n : Nat)
deriving DecidableEq

def symT (k : Nat) (t : List Int) : Sym := ⟨k, t, 0, [], [], 0⟩

def markL : List (List Int) := [[94, 94], [58, 45], [33, 61], [61], [46], [44], [40], [41], [123], [125]]
def markT (l : List Int) : Took := match markL.find? (fun m => m.isPrefixOf l) with | none => .no | some m => .got (symT 8 m) m.length
def colonB (l : List Int) : Bool := [58].isPrefixOf l && !([58, 45].isPrefixOf l)
def nameT (l : List Int) : Took :=
  if colonB (l.drop (spanL letterDigit l)) = true then
    if (0 < spanL letterDigit l ∧ isWordL (l.take (spanL letterDigit l)) = false) ∨ 64 < spanL localC (l.drop (spanL letterDigit l + 1)) then .bad
    else .got (symT 7 (l.take (spanL letterDigit l + 1 + spanL localC (l.drop (spanL letterDigit l + 1))))) (spanL letterDigit l + 1 + spanL localC (l.drop (spanL letterDigit l + 1)))
  else .no
def wordT (l : List Int) : Took :=
  if spanL letterDigit l = 0 then .no
  else if isWordL (l.take (spanL letterDigit l)) = true then .got (symT 6 (l.take (spanL letterDigit l))) (spanL letterDigit l) else .bad
def varT (l : List Int) : Took :=
  if [63].isPrefixOf l = true then
    if isWordL ((l.drop 1).take (spanL letterDigit (l.drop 1))) = true then .got (symT 5 ((l.drop 1).take (spanL letterDigit (l.drop 1)))) (1 + spanL letterDigit (l.drop 1)) else .bad
  else .no
def blankT (l : List Int) : Took :=
  if [95, 58].isPrefixOf l = true then
    if isBlankB ((l.drop 2).take (spanL letterDigit (l.drop 2))) = true then .got ⟨2, [], 2, (l.drop 2).take (spanL letterDigit (l.drop 2)), [], 0⟩ (2 + spanL letterDigit (l.drop 2)) else .bad
  else .no
def langT (l : List Int) : Took :=
  if [64].isPrefixOf l = true then
    if tagL ((l.drop 1).take (spanL langC (l.drop 1))) = true then .got (symT 4 ((l.drop 1).take (spanL langC (l.drop 1)))) (1 + spanL langC (l.drop 1)) else .bad
  else .no

/-- A digit's value; below 0: it is none. -/
def hexD (c : Int) : Int := if 48 ≤ c ∧ c ≤ 57 then c - 48 else if 65 ≤ c ∧ c ≤ 70 then c - 55 else if 97 ≤ c ∧ c ≤ 102 then c - 87 else -1
def hexV (l : List Int) : Int := l.foldl (fun r c => 16 * r + hexD c) 0
def hexOK (l : List Int) : Bool := l.all fun c => decide (0 ≤ hexD c)
def numL (k : Nat) (r : List Int) : Option (List Int × Nat) :=
  if k ≤ r.length ∧ hexOK (r.take k) = true ∧ May (hexV (r.take k)) then some (enc (hexV (r.take k)), 2 + k) else none
def shortE (c : Int) : Option Int := if c = 116 then some 9 else if c = 98 then some 8 else if c = 110 then some 10 else if c = 114 then some 13 else if c = 102 then some 12 else if c = 34 then some 34 else if c = 39 then some 39 else if c = 92 then some 92 else none
/-- What stands behind a backslash: the bytes, and how many it has with the backslash. -/
def escL (all : Bool) : List Int → Option (List Int × Nat)
  | [] => none
  | c :: r => if c = 117 then numL 4 r else if c = 85 then numL 8 r else if all = true then (shortE c).map (fun x => ([x], 2)) else none
theorem escL_pos {all : Bool} {l b : List Int} {k : Nat} (h : escL all l = some (b, k)) : 2 ≤ k ∧ k ≤ l.length + 1 := by
  cases l with
  | nil => cases h
  | cons c r =>
    rw [escL] at h
    split at h
    · unfold numL at h
      split at h
      · rename_i h1
        simp only [Option.some.injEq, Prod.mk.injEq] at h
        simp only [List.length_cons]; omega
      · cases h
    · split at h
      · unfold numL at h
        split at h
        · rename_i h1
          simp only [Option.some.injEq, Prod.mk.injEq] at h
          simp only [List.length_cons]; omega
        · cases h
      · split at h
        · cases hs : shortE c with
          | none => rw [hs] at h; cases h
          | some y =>
            rw [hs] at h
            simp only [Option.map_some, Option.some.injEq, Prod.mk.injEq] at h
            simp only [List.length_cons]; omega
        · cases h

/-- What is denoted up to a stop, and how many bytes that is, the stop counted. -/
def denF (nl all : Bool) (stop : Int) : Nat → List Int → Option (List Int × Nat)
  | 0, _ => none
  | _ + 1, [] => none
  | f + 1, c :: l =>
    if c = stop then some ([], 1)
    else if nl = true ∧ (c = 10 ∨ c = 13) then none
    else if c = 92 then
      match escL all l with
      | none => none
      | some (b, k) => (denF nl all stop f (l.drop (k - 1))).map fun x => (b ++ x.1, k + x.2)
    else (denF nl all stop f l).map fun x => (c :: x.1, 1 + x.2)
theorem denF_fuel (nl all : Bool) (stop : Int) : ∀ (f g : Nat) (l : List Int), l.length ≤ f → l.length ≤ g → denF nl all stop f l = denF nl all stop g l
  | 0, g, l, h, _ => by
    obtain rfl : l = [] := List.eq_nil_of_length_eq_zero (by omega)
    cases g <;> rfl
  | f + 1, 0, l, _, h => by
    obtain rfl : l = [] := List.eq_nil_of_length_eq_zero (by omega)
    rfl
  | f + 1, g + 1, [], _, _ => rfl
  | f + 1, g + 1, c :: l, h1, h2 => by
    simp only [List.length_cons] at h1 h2
    unfold denF
    rw [denF_fuel nl all stop f g l (by omega) (by omega)]
    cases he : escL all l with
    | none => rfl
    | some x =>
      obtain ⟨b, k⟩ := x
      have := escL_pos he
      simp only
      rw [denF_fuel nl all stop f g (l.drop (k - 1)) (by rw [List.length_drop]; omega) (by rw [List.length_drop]; omega)]
def den (nl all : Bool) (stop : Int) (l : List Int) : Option (List Int × Nat) := denF nl all stop l.length l
theorem den_nil (nl all : Bool) (stop : Int) : den nl all stop [] = none := rfl
theorem den_cons (nl all : Bool) (stop c : Int) (l : List Int) : den nl all stop (c :: l) =
    if c = stop then some ([], 1)
    else if nl = true ∧ (c = 10 ∨ c = 13) then none
    else if c = 92 then
      match escL all l with
      | none => none
      | some (b, k) => (den nl all stop (l.drop (k - 1))).map fun x => (b ++ x.1, k + x.2)
    else (den nl all stop l).map fun x => (c :: x.1, 1 + x.2) := by
  unfold den
  rw [List.length_cons]
  conv => lhs; unfold denF
  cases he : escL all l with
  | none => rfl
  | some x =>
    obtain ⟨b, k⟩ := x
    have := escL_pos he
    simp only
    rw [denF_fuel nl all stop l.length (l.drop (k - 1)).length (l.drop (k - 1)) (by rw [List.length_drop]; omega) (Nat.le_refl _)]
theorem den_pos {nl all : Bool} {stop : Int} : ∀ {n : Nat} {l t : List Int} {k : Nat}, l.length ≤ n → den nl all stop l = some (t, k) → 1 ≤ k ∧ k ≤ l.length
  | n, [], t, k, _, h => by cases h
  | 0, c :: l, t, k, hn, h => by simp at hn
  | n + 1, c :: l, t, k, hn, h => by
    simp only [List.length_cons] at hn ⊢
    rw [den_cons] at h
    split at h
    · simp only [Option.some.injEq, Prod.mk.injEq] at h; omega
    · split at h
      · cases h
      · split at h
        · cases he : escL all l with
          | none => rw [he] at h; cases h
          | some x =>
            obtain ⟨b, k'⟩ := x
            rw [he] at h
            have hp := escL_pos he
            simp only at h
            cases hd : den nl all stop (l.drop (k' - 1)) with
            | none => rw [hd] at h; cases h
            | some y =>
              obtain ⟨t', k2⟩ := y
              rw [hd] at h
              simp only [Option.map_some, Option.some.injEq, Prod.mk.injEq] at h
              have := den_pos (n := n) (by rw [List.length_drop]; omega) hd
              rw [List.length_drop] at this
              omega
        · cases hd : den nl all stop l with
          | none => rw [hd] at h; cases h
          | some y =>
            obtain ⟨t', k2⟩ := y
            rw [hd] at h
            simp only [Option.map_some, Option.some.injEq, Prod.mk.injEq] at h
            have := den_pos (n := n) (by omega) hd
            omega

def quotedT (l : List Int) : Took :=
  if [34].isPrefixOf l = true then
    match den true true 34 (l.drop 1) with
    | none => .bad
    | some (t, n) => .got (symT 3 t) (1 + n)
  else .no
def iriT (l : List Int) : Took :=
  if [60].isPrefixOf l = true then
    match den true false 62 (l.drop 1) with
    | none => .bad
    | some (t, n) => if isIRIB t = true then .got ⟨1, [], 1, t, [], 0⟩ (1 + n) else .bad
  else .no

/-- The first that is not 'no'. -/
def Took.or : Took → Took → Took
  | .no, b => b
  | a, _ => a
def takers (l : List Int) : List Took := [markT l, nameT l, wordT l, varT l, quotedT l, iriT l, blankT l, langT l]
def firstT : List Took → Took
  | [] => .bad
  | .no :: r => firstT r
  | x :: _ => x
def one (l : List Int) : Took := firstT (takers l)

theorem runL_le (p : Int → Bool) (l : List Int) : spanL p l ≤ l.length := by
  unfold spanL
  exact List.Sublist.length_le (List.takeWhile_sublist p)
theorem prefix_len {a l : List Int} (h : a.isPrefixOf l = true) : a.length ≤ l.length := List.IsPrefix.length_le (List.isPrefixOf_iff_prefix.1 h)
theorem markT_pos {l : List Int} {x : Sym} {n : Nat} (h : markT l = .got x n) : 1 ≤ n ∧ n ≤ l.length := by
  unfold markT at h
  cases hf : markL.find? (fun m => m.isPrefixOf l) with
  | none => rw [hf] at h; cases h
  | some m =>
    rw [hf] at h
    simp only [Took.got.injEq] at h
    have h1 := List.find?_some hf
    have h2 := List.mem_of_find?_eq_some hf
    have h3 := prefix_len h1
    have h4 : ∀ m ∈ markL, 1 ≤ m.length := by decide
    have := h4 m h2
    omega
theorem takers_pos {l : List Int} {x : Sym} {n : Nat} : ∀ T ∈ takers l, T = .got x n → 1 ≤ n ∧ n ≤ l.length := by
  intro T hT h
  subst h
  unfold takers at hT
  simp only [List.mem_cons, List.not_mem_nil, or_false] at hT
  rcases hT with h | h | h | h | h | h | h | h
  · exact markT_pos h.symm
  · unfold nameT at h
    split at h
    · rename_i hc
      split at h
      · cases h
      · simp only [Took.got.injEq] at h
        have h1 := runL_le letterDigit l
        have h2 := runL_le localC (l.drop (spanL letterDigit l + 1))
        unfold colonB at hc
        rw [Bool.and_eq_true] at hc
        have h3 := prefix_len hc.1
        rw [List.length_drop] at h2 h3
        simp only [List.length_cons, List.length_nil] at h3
        omega
    · cases h
  · unfold wordT at h
    split at h
    · cases h
    · split at h
      · simp only [Took.got.injEq] at h
        have h1 := runL_le letterDigit l
        omega
      · cases h
  · unfold varT at h
    split at h
    · rename_i hc
      have h3 := prefix_len hc
      split at h
      · simp only [Took.got.injEq] at h
        have h1 := runL_le letterDigit (l.drop 1)
        rw [List.length_drop] at h1
        simp only [List.length_cons, List.length_nil] at h3
        omega
      · cases h
    · cases h
  · unfold quotedT at h
    split at h
    · rename_i hc
      have h3 := prefix_len hc
      simp only [List.length_cons, List.length_nil] at h3
      split at h
      · cases h
      · rename_i t k hd
        simp only [Took.got.injEq] at h
        have := den_pos (Nat.le_refl _) hd
        rw [List.length_drop] at this
        omega
    · cases h
  · unfold iriT at h
    split at h
    · rename_i hc
      have h3 := prefix_len hc
      simp only [List.length_cons, List.length_nil] at h3
      split at h
      · cases h
      · rename_i t k hd
        split at h
        · simp only [Took.got.injEq] at h
          have := den_pos (Nat.le_refl _) hd
          rw [List.length_drop] at this
          omega
        · cases h
    · cases h
  · unfold blankT at h
    split at h
    · rename_i hc
      have h3 := prefix_len hc
      split at h
      · simp only [Took.got.injEq] at h
        have h1 := runL_le letterDigit (l.drop 2)
        rw [List.length_drop] at h1
        simp only [List.length_cons, List.length_nil] at h3
        omega
      · cases h
    · cases h
  · unfold langT at h
    split at h
    · rename_i hc
      have h3 := prefix_len hc
      split at h
      · simp only [Took.got.injEq] at h
        have h1 := runL_le langC (l.drop 1)
        rw [List.length_drop] at h1
        simp only [List.length_cons, List.length_nil] at h3
        omega
      · cases h
    · cases h
theorem firstT_mem {x : Sym} {n : Nat} : ∀ {L : List Took}, firstT L = .got x n → .got x n ∈ L
  | [], h => by cases h
  | .no :: r, h => List.mem_cons_of_mem _ (firstT_mem (L := r) h)
  | .bad :: r, h => by cases h
  | .got y k :: r, h => by rw [firstT] at h; rw [h]; exact List.mem_cons_self; all_goals (intro h; cases h)
theorem one_pos {l : List Int} {x : Sym} {n : Nat} (h : one l = .got x n) : 1 ≤ n ∧ n ≤ l.length := takers_pos _ (firstT_mem h) rfl

theorem sk_le : ∀ (b : Bool) (l : List Int), sk b l ≤ l.length
  | b, [] => by cases b <;> exact Nat.le_refl _
  | true, c :: l => by
    have h1 := sk_le true l
    have h2 := sk_le false l
    unfold sk
    simp only [List.length_cons]
    split <;> omega
  | false, c :: l => by
    have h1 := sk_le true l
    have h2 := sk_le false l
    unfold sk
    simp only [List.length_cons]
    split
    · omega
    · split <;> omega

/-- All symbols up to the first place where none is, and that place. -/
def toksF : Nat → List Int → Nat → List Sym × Nat
  | 0, _, p => ([], p)
  | f + 1, l, p =>
    if l.drop (sk false l) = [] then ([], p + sk false l)
    else match one (l.drop (sk false l)) with
    | .got x n => ({ x with place := p + sk false l } :: (toksF f (l.drop (sk false l + n)) (p + sk false l + n)).1, (toksF f (l.drop (sk false l + n)) (p + sk false l + n)).2)
    | _ => ([], p + sk false l)
theorem toksF_fuel : ∀ (f g : Nat) (l : List Int) (p : Nat), l.length < f → l.length < g → toksF f l p = toksF g l p
  | 0, g, l, p, h, _ => by omega
  | f + 1, 0, l, p, _, h => by omega
  | f + 1, g + 1, l, p, h1, h2 => by
    unfold toksF
    split
    · rfl
    · cases ho : one (l.drop (sk false l)) with
      | no => rfl
      | bad => rfl
      | got x n =>
        have := one_pos ho
        simp only
        rw [List.length_drop] at this
        rw [toksF_fuel f g _ _ (by rw [List.length_drop]; omega) (by rw [List.length_drop]; omega)]
def toks (l : List Int) (p : Nat) : List Sym × Nat := toksF (l.length + 1) l p
theorem toks_eq (l : List Int) (p : Nat) : toks l p =
    if l.drop (sk false l) = [] then ([], p + sk false l)
    else match one (l.drop (sk false l)) with
    | .got x n => ({ x with place := p + sk false l } :: (toks (l.drop (sk false l + n)) (p + sk false l + n)).1, (toks (l.drop (sk false l + n)) (p + sk false l + n)).2)
    | _ => ([], p + sk false l) := by
  unfold toks
  conv => lhs; unfold toksF
  split
  · rfl
  · cases ho : one (l.drop (sk false l)) with
    | no => rfl
    | bad => rfl
    | got x n =>
      have := one_pos ho
      rw [List.length_drop] at this
      simp only
      rw [toksF_fuel l.length ((l.drop (sk false l + n)).length + 1) (l.drop (sk false l + n)) _ (by rw [List.length_drop]; omega) (by omega)]

/-- One step of it: the next symbol, and where it ends; or none, and where that is. -/
def nextL (l : List Int) : Option (Sym × Nat) :=
  if l.drop (sk false l) = [] then none
  else match one (l.drop (sk false l)) with
  | .got x n => some ({ x with place := sk false l }, sk false l + n)
  | _ => none
def Sym.move (x : Sym) (p : Nat) : Sym := { x with place := p + x.place }
theorem toks_next (l : List Int) (p : Nat) : toks l p = match nextL l with
    | none => ([], p + sk false l)
    | some (x, n) => (x.move p :: (toks (l.drop n) (p + n)).1, (toks (l.drop n) (p + n)).2) := by
  rw [toks_eq]
  unfold nextL
  split
  · rfl
  · cases ho : one (l.drop (sk false l)) with
    | no => rfl
    | bad => rfl
    | got x n =>
      simp only [Sym.move, Nat.add_assoc]
theorem nextL_pos {l : List Int} {x : Sym} {n : Nat} (h : nextL l = some (x, n)) : 1 ≤ n ∧ n ≤ l.length := by
  unfold nextL at h
  split at h
  · cases h
  · cases ho : one (l.drop (sk false l)) with
    | no => rw [ho] at h; cases h
    | bad => rw [ho] at h; cases h
    | got y k =>
      rw [ho] at h
      simp only [Option.some.injEq, Prod.mk.injEq] at h
      have h1 := one_pos ho
      have h2 := sk_le false l
      rw [List.length_drop] at h1
      omega
/-- What All answers of a well-formed text. -/
def allL (l : List Int) : List Sym × Nat := toks l 0
end Go.Proofs.YtbheafpbamkphaaGreatDoor.Lex
