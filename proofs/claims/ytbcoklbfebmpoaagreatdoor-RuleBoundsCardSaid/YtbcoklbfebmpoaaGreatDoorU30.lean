/-
  WHAT THE PROOF STANDS ON, a part of it: LexRefX, LexRefSpan, LexRefQuoted, LexRefNamed, LexRefOne.
-/
import Derived.Test.YtbcoklbfebmpoaaGreatDoorU18
import Derived.Test.YtbcoklbfebmpoaaGreatDoorU12
import Derived.Test.YtbcoklbfebmpoaaGreatDoorU19
import Derived.Deep.DeepCutAuto
import Derived.LoopTactic
import Derived.Test.YtbcoklbfebmpoaaGreatDoorU21
import Derived.Test.YtbcoklbfebmpoaaGreatDoorU26
/-
  CONTRACTS OF THE REFERENCE's ch, hex AND escape: exact.
-/

namespace Go.Proofs.YtbcoklbfebmpoaaGreatDoor
open Go.RowKit
open Utf Term Lex
set_option linter.unusedVariables false
set_option linter.unusedSimpArgs false

theorem drop_at {l : List Int} {k : Nat} (h : k < l.length) : l.drop k = l.getD k 0 :: l.drop (k + 1) := by
  rw [List.drop_eq_getElem_cons h, List.getD_eq_getElem?_getD, List.getElem?_eq_getElem h]
  rfl
/-- What escape answers. -/
def EscX (s : ByteArray) (a : Nat) (all : Bool) (w : World) (e : Ending) (w' : World) : Prop :=
  Below w.heap.size w w' ∧ match escL all ((bs s).drop (a + 1)) with
  | none => e = .returned (.tuple #[.slice none 0 0, .int .i64 (-1)])
  | some (b, k) => e = .returned (.tuple #[.slice (some ⟨w.heap.size, 0, none⟩) b.length b.length, .int .i64 ((a : Int) + (k : Int))]) ∧ BlockAt w' w.heap.size (b.map (Value.int .u8)).toArray 5
theorem EscX.no {s : ByteArray} {a : Nat} {all : Bool} {w : World} (h : escL all ((bs s).drop (a + 1)) = none) : EscX s a all w (.returned (.tuple #[.slice none 0 0, .int .i64 (-1)])) w := by
  unfold EscX
  rw [h]
  exact ⟨Below.refl _ _, rfl⟩
theorem EscX.one {s : ByteArray} {a : Nat} {all : Bool} {w : World} (b : Int) (h : escL all ((bs s).drop (a + 1)) = some ([b], 2)) : EscX s a all w (.returned (.tuple #[.slice (some ⟨w.heap.size, 0, none⟩) 1 1, .int .i64 ((a : Int) + 2)])) (w.alloc (.cells #[.int .u8 b] 5)) := by
  unfold EscX
  rw [h]
  exact ⟨below_lex _ _, rfl, block_new _ _ _⟩
theorem EscX.put {s : ByteArray} {a : Nat} {all : Bool} {w : World} (r : Int) (hr : May r) (k : Nat) (h : escL all ((bs s).drop (a + 1)) = some (enc r, k)) (d : Int) (hd : d = (a : Int) + (k : Int)) : EscX s a all w (.returned (.tuple #[.slice (some ⟨w.heap.size, 0, none⟩) (rsize r) (rsize r), .int .i64 d])) (w.alloc (.cells ((enc r).map (Value.int .u8)).toArray 5)) := by
  unfold EscX
  rw [h, hd]
  exact ⟨below_lex _ _, by rw [rsize_enc hr], block_new _ _ _⟩
end Go.Proofs.YtbcoklbfebmpoaaGreatDoor

/-
  CONTRACTS OF THE REFERENCE's Skip, word: exact. Written by tools/genrefspan.py.
-/

namespace Go.Proofs.YtbcoklbfebmpoaaGreatDoor
open Go.RowKit
open Utf Term Lex
set_option linter.unusedVariables false
set_option linter.unusedSimpArgs false

theorem bs_dropAt (s : ByteArray) (k : Nat) (h : k < s.size) : (bs s).drop k = (s[k].toNat : Int) :: (bs s).drop (k + 1) := by
  rw [drop_at (by rw [bs_length]; exact h), bs_getD s k h]
theorem bs_dropEnd (s : ByteArray) (k : Nat) (h : ¬ k < s.size) : (bs s).drop k = [] := List.drop_eq_nil_of_le (by rw [bs_length]; omega)

/-- Where what may be between symbols ends. -/
def SkAt (b : Bool) (s : ByteArray) (k Q : Nat) : Prop := Q = k + sk b ((bs s).drop k)
theorem sk_cons_false (c : Int) (l : List Int) : sk false (c :: l) = if isWS c = true then 1 + sk false l else if c = 35 then 1 + sk true l else 0 := rfl
theorem SkAt.back {s : ByteArray} {k Q : Nat} (h : SkAt true s k Q) (hk : k < s.size) (hc : (s[k].toNat : Int) = 10) : SkAt false s k Q := by
  unfold SkAt at *
  rw [bs_dropAt s k hk, hc] at h ⊢
  exact h
theorem SkAt.stop {b : Bool} {s : ByteArray} {k Q : Nat} (h : SkAt b s k Q) (hk : ¬ k < s.size) : SkAt false s k Q := by
  unfold SkAt at *
  rw [bs_dropEnd s k hk] at h ⊢
  cases b <;> exact h
theorem SkAt.done {s : ByteArray} {k Q : Nat} (h : SkAt false s k Q) (hk : k < s.size) (hc : ¬ ((s[k].toNat : Int) = 9 ∨ (s[k].toNat : Int) = 10 ∨ (s[k].toNat : Int) = 13 ∨ (s[k].toNat : Int) = 32)) (h35 : ¬ (s[k].toNat : Int) = 35) : Q = k := by
  unfold SkAt at h
  rw [bs_dropAt s k hk, sk_cons_false, if_neg (by unfold isWS; simp only [Bool.or_eq_true, decide_eq_true_eq]; intro e; exact hc (by omega)), if_neg h35] at h
  exact h
theorem SkAt.over {b : Bool} {s : ByteArray} {k Q : Nat} (h : SkAt b s k Q) (hk : ¬ k < s.size) : Q = k := by
  unfold SkAt at h
  rw [bs_dropEnd s k hk] at h
  cases b <;> exact h

/-- Where a word ends. -/
def WdAt (s : ByteArray) (a0 k Q : Nat) : Prop := (a0 = k ∧ Q = k + wordE ((bs s).drop k)) ∨ (a0 < k ∧ Q = k + spanL letterDigit ((bs s).drop k))
theorem WdAt.letter {s : ByteArray} {a0 k Q : Nat} (h : WdAt s a0 k Q) (hk : k < s.size) (hc : Term.letter (s[k].toNat : Int) = true) : WdAt s a0 (k + 1) Q := by
  rcases h with ⟨rfl, h⟩ | ⟨h0, h⟩
  · rw [bs_dropAt s _ hk, wordE_yes hc, span_succ (letter_ld hc)] at h
    exact .inr ⟨by omega, by omega⟩
  · rw [bs_dropAt s _ hk, span_succ (letter_ld hc)] at h
    exact .inr ⟨by omega, by omega⟩
theorem WdAt.digit {s : ByteArray} {a0 k Q : Nat} (h : WdAt s a0 k Q) (hk : k < s.size) (ha : a0 < k) (hc : Term.digit (s[k].toNat : Int) = true) : WdAt s a0 (k + 1) Q := by
  rcases h with ⟨rfl, h⟩ | ⟨h0, h⟩
  · omega
  · rw [bs_dropAt s _ hk, span_succ (by unfold letterDigit; rw [hc, Bool.or_true])] at h
    exact .inr ⟨by omega, by omega⟩
theorem WdAt.none {s : ByteArray} {a0 k Q : Nat} (h : WdAt s a0 k Q) (hk : k < s.size) (hc : Term.letter (s[k].toNat : Int) = false) (hd : Term.digit (s[k].toNat : Int) = false) : Q = k := by
  rcases h with ⟨rfl, h⟩ | ⟨h0, h⟩
  · rw [bs_dropAt s _ hk, wordE_no hc] at h
    exact h
  · rw [bs_dropAt s _ hk, span_zero (by unfold letterDigit; rw [hc, hd]; rfl)] at h
    exact h
theorem WdAt.first {s : ByteArray} {a0 k Q : Nat} (h : WdAt s a0 k Q) (hk : k < s.size) (hc : Term.letter (s[k].toNat : Int) = false) (ha : ¬ a0 < k) : Q = k := by
  rcases h with ⟨rfl, h⟩ | ⟨h0, h⟩
  · rw [bs_dropAt s _ hk, wordE_no hc] at h
    exact h
  · omega
theorem WdAt.over {s : ByteArray} {a0 k Q : Nat} (h : WdAt s a0 k Q) (hk : ¬ k < s.size) : Q = k := by
  rcases h with ⟨rfl, h⟩ | ⟨h0, h⟩
  · rw [bs_dropEnd s _ hk] at h
    exact h
  · rw [bs_dropEnd s _ hk] at h
    exact h

end Go.Proofs.YtbcoklbfebmpoaaGreatDoor

/-
  CONTRACT OF THE REFERENCE's quoted: exact.
-/

namespace Go.Proofs.YtbcoklbfebmpoaaGreatDoor
open Go.RowKit
open Utf Term Lex
set_option linter.unusedVariables false
set_option linter.unusedSimpArgs false

theorem den_at2 {nl all : Bool} {stop c : Int} {l : List Int} {k : Nat} (h : l[k]? = some c) : den nl all stop (l.drop k) =
    if c = stop then some ([], 1)
    else if nl = true ∧ (c = 10 ∨ c = 13) then none
    else if c = 92 then
      match escL all (l.drop (k + 1)) with
      | none => none
      | some (b, m) => (den nl all stop (l.drop (k + m))).map fun x => (b ++ x.1, m + x.2)
    else (den nl all stop (l.drop (k + 1))).map fun x => (c :: x.1, 1 + x.2) := den_at h
/-- What has been read so far, and what comes. -/
def DenG (D : Option (List Int × Nat)) (all : Bool) (stop : Int) (l acc : List Int) (b k : Nat) : Prop :=
  D = (den all all stop (l.drop k)).map fun x => (acc ++ x.1, k - b + x.2)
theorem DenG.plain {D : Option (List Int × Nat)} {all : Bool} {stop c : Int} {l acc : List Int} {b k : Nat} (h : DenG D all stop l acc b k) (hk : b ≤ k) (hc : l[k]? = some c) (h1 : c ≠ stop) (h2 : all = true → ¬ (c = 10 ∨ c = 13)) (h4 : c ≠ 92) : DenG D all stop l (acc ++ [c]) b (k + 1) := by
  unfold DenG at *
  rw [h, den_at2 hc, if_neg h1, if_neg (by rintro ⟨e1, e2⟩; exact h2 e1 e2), if_neg h4, Option.map_map]
  congr 1
  funext x
  simp only [Function.comp, List.append_assoc, List.cons_append, List.nil_append, Prod.mk.injEq, true_and]
  omega
theorem DenG.esc {D : Option (List Int × Nat)} {all : Bool} {stop : Int} {l acc x : List Int} {b k m : Nat} (h : DenG D all stop l acc b k) (hk : b ≤ k) (hc : l[k]? = some 92) (h1 : (92 : Int) ≠ stop) (he : escL all (l.drop (k + 1)) = some (x, m)) : DenG D all stop l (acc ++ x) b (k + m) := by
  unfold DenG at *
  rw [h, den_at2 hc, if_neg h1, if_neg (by intro h; exact h.2.elim (by decide) (by decide)), if_pos rfl, he, Option.map_map]
  congr 1
  funext y
  simp only [Function.comp, List.append_assoc, Prod.mk.injEq, true_and]
  omega
theorem DenG.noEsc {D : Option (List Int × Nat)} {all : Bool} {stop : Int} {l acc : List Int} {b k : Nat} (h : DenG D all stop l acc b k) (hc : l[k]? = some 92) (h1 : (92 : Int) ≠ stop) (he : escL all (l.drop (k + 1)) = none) : D = none := by
  unfold DenG at *
  rw [h, den_at2 hc, if_neg h1, if_neg (by intro h; exact h.2.elim (by decide) (by decide)), if_pos rfl, he]
  rfl
theorem DenG.line {D : Option (List Int × Nat)} {all : Bool} {stop c : Int} {l acc : List Int} {b k : Nat} (h : DenG D all stop l acc b k) (hc : l[k]? = some c) (h1 : c ≠ stop) (ha : all = true) (h2 : c = 10 ∨ c = 13) : D = none := by
  unfold DenG at *
  rw [h, den_at2 hc, if_neg h1, if_pos ⟨ha, h2⟩]
  rfl
theorem DenG.stop {D : Option (List Int × Nat)} {all : Bool} {stop : Int} {l acc : List Int} {b k : Nat} (h : DenG D all stop l acc b k) (hc : l[k]? = some stop) : D = some (acc, k - b + 1) := by
  unfold DenG at *
  rw [h, den_at2 hc, if_pos rfl]
  simp only [Option.map_some, List.append_nil]
theorem DenG.end_ {D : Option (List Int × Nat)} {all : Bool} {stop : Int} {l acc : List Int} {b k : Nat} (h : DenG D all stop l acc b k) (hk : l.length ≤ k) : D = none := by
  unfold DenG at *
  rw [h, List.drop_eq_nil_of_le hk]
  rfl

end Go.Proofs.YtbcoklbfebmpoaaGreatDoor

/-
  CONTRACT OF THE REFERENCE's named: exact. Written by tools/genrefnamed.py.
-/

namespace Go.Proofs.YtbcoklbfebmpoaaGreatDoor
open Go.RowKit
open Utf Term Lex
set_option linter.unusedVariables false
set_option linter.unusedSimpArgs false

/-- What One answers. -/
def OneX (T : Took) (a : Nat) (w : World) (e : Ending) (w' : World) : Prop :=
  Below w.heap.size w w' ∧ match T with
  | .got x n => e = .returned (.tuple #[symV { x with place := a }, .int .i64 ((a + n : Nat) : Int)])
  | _ => ∃ k t tk tt te p, e = .returned (.tuple #[.agg (symC k t tk tt te p), .int .i64 (-1)])
theorem OneX.bad {T : Took} {a : Nat} {w : World} (h : T = .bad) (k : Int) (t : ByteArray) (tk : Int) (tt te : ByteArray) (p : Int) (W : World) (hB : Below w.heap.size w W) : OneX T a w (.returned (.tuple #[.agg (symC k t tk tt te p), .int .i64 (-1)])) W := by
  subst h
  exact ⟨hB, k, t, tk, tt, te, p, rfl⟩
theorem OneX.text {T : Took} {a : Nat} {w : World} {k : Nat} {l : List Int} {n : Nat} (h : T = .got (symT k l) n) {t : ByteArray} (ht : bs t = l) (W : World) (hB : Below w.heap.size w W) : OneX T a w (.returned (.tuple #[.agg (symC k t 0 ⟨#[]⟩ ⟨#[]⟩ a), .int .i64 ((a + n : Nat) : Int)])) W := by
  subst h
  refine ⟨hB, ?_⟩
  simp only [symV, symA, symT]
  rw [str_of ht]
  rfl

/-- Where a run of some characters ends. -/
def SpAt (p : Int → Bool) (s : ByteArray) (k Q : Nat) : Prop := Q = k + spanL p ((bs s).drop k)
theorem SpAt.step {p : Int → Bool} {s : ByteArray} {k Q : Nat} (h : SpAt p s k Q) (hk : k < s.size) (hc : p (s[k].toNat : Int) = true) : SpAt p s (k + 1) Q := by
  unfold SpAt at *
  rw [bs_dropAt s k hk, span_succ hc] at h
  omega
theorem SpAt.none {p : Int → Bool} {s : ByteArray} {k Q : Nat} (h : SpAt p s k Q) (hk : k < s.size) (hc : p (s[k].toNat : Int) = false) : Q = k := by
  unfold SpAt at h
  rw [bs_dropAt s k hk, span_zero hc] at h
  exact h
theorem SpAt.over {p : Int → Bool} {s : ByteArray} {k Q : Nat} (h : SpAt p s k Q) (hk : ¬ k < s.size) : Q = k := by
  unfold SpAt at h
  rw [bs_dropEnd s k hk] at h
  exact h
end Go.Proofs.YtbcoklbfebmpoaaGreatDoor

/-
  CONTRACTS OF THE REFERENCE's marks, One: exact. Written by tools/genrefone.py.
-/

namespace Go.Proofs.YtbcoklbfebmpoaaGreatDoor
open Go.RowKit
open Utf Term Lex
set_option linter.unusedVariables false
set_option linter.unusedSimpArgs false

theorem OneX.any {T : Took} {a : Nat} {w W : World} {x : Sym} {n : Nat} {d : Int} (h : T = .got x n) (hd : d = ((a + n : Nat) : Int)) (hB : Below w.heap.size w W) : OneX T a w (.returned (.tuple #[.agg (symC x.kind (strOfNums x.text) x.tk (strOfNums x.tt) (strOfNums x.te) a), .int .i64 d])) W := by
  subst h hd
  exact ⟨hB, rfl⟩
theorem OneX.form {T : Took} {a : Nat} {y : World} {e : Ending} {W' : World} (h : OneX T a y e W') : Below y.heap.size y W' ∧ ∃ k t tk tt te p d, e = .returned (.tuple #[.agg (symC k t tk tt te p), .int .i64 d]) ∧ ∀ w W, Below w.heap.size w W → OneX T a w e W := by
  obtain ⟨h1, h2⟩ := h
  cases T with
  | got x n =>
    refine ⟨h1, x.kind, strOfNums x.text, x.tk, strOfNums x.tt, strOfNums x.te, a, ((a + n : Nat) : Int), h2, fun w W hB => ⟨hB, h2⟩⟩
  | no =>
    obtain ⟨k, t, tk, tt, te, p, he⟩ := h2
    exact ⟨h1, k, t, tk, tt, te, p, -1, he, fun w W hB => ⟨hB, k, t, tk, tt, te, p, he⟩⟩
  | bad =>
    obtain ⟨k, t, tk, tt, te, p, he⟩ := h2
    exact ⟨h1, k, t, tk, tt, te, p, -1, he, fun w W hB => ⟨hB, k, t, tk, tt, te, p, he⟩⟩
end Go.Proofs.YtbcoklbfebmpoaaGreatDoor

