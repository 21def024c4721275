/-
  WHAT THE PROOF STANDS ON, a part of it: OrderMath.
-/
import Derived.Lib.Bytealg
import GoSem.Op.String
/-
  PLAIN MATHEMATICS: orders by a number (-1, 0, 1); of bytes, of texts, of terms, of triples.
-/

namespace Go.Proofs.YtlkiigoblkfkpaaGreatDoor.Term
open Go

/-- A total order, by a number. -/
structure Ord {α : Type} (f : α → α → Int) : Prop where
  anti : ∀ x y, f y x = - f x y
  zero : ∀ x y, f x y = 0 ↔ x = y
  trans : ∀ x y z, f x y ≤ 0 → f y z ≤ 0 → f x z ≤ 0
  range : ∀ x y, f x y = -1 ∨ f x y = 0 ∨ f x y = 1

namespace Ord
variable {α β : Type} {f : α → α → Int} {g : β → β → Int}
theorem refl (h : Ord f) (x : α) : f x x = 0 := (h.zero x x).2 rfl
theorem lt_le (h : Ord f) {x y z : α} (h1 : f x y < 0) (h2 : f y z ≤ 0) : f x z < 0 := by
  have h3 := h.trans x y z (by omega) h2
  by_cases e : f x z = 0
  · obtain rfl := (h.zero x z).1 e
    have := h.anti x y
    omega
  · omega
theorem of_eq (h : Ord f) {x y : α} (e : f x y = 0) : x = y := (h.zero x y).1 e

/-- First by the one, then by the other. -/
def lex (f : α → α → Int) (g : β → β → Int) : α × β → α × β → Int := fun p q => if f p.1 q.1 = 0 then g p.2 q.2 else f p.1 q.1
theorem of_lex (hf : Ord f) (hg : Ord g) : Ord (lex f g) where
  anti p q := by
    have h1 := hf.anti p.1 q.1
    unfold lex
    by_cases e : f p.1 q.1 = 0
    · rw [if_pos e, if_pos (by omega), hg.anti]
    · rw [if_neg e, if_neg (by omega), h1]
  zero p q := by
    unfold lex
    by_cases e : f p.1 q.1 = 0
    · rw [if_pos e, hg.zero]
      have := hf.of_eq e
      constructor
      · intro h; exact Prod.ext this h
      · intro h; rw [h]
    · rw [if_neg e]
      constructor
      · intro h; exact absurd h e
      · intro h; rw [h, hf.refl] at e; exact absurd rfl e
  trans p q r h1 h2 := by
    unfold lex at *
    by_cases e1 : f p.1 q.1 = 0
    · rw [if_pos e1] at h1
      have e1' := hf.of_eq e1
      rw [← e1'] at h2
      by_cases e2 : f p.1 r.1 = 0
      · rw [if_pos e2] at h2 ⊢
        exact hg.trans _ _ _ h1 h2
      · rw [if_neg e2] at h2 ⊢
        exact h2
    · rw [if_neg e1] at h1
      have h1' : f p.1 q.1 < 0 := by omega
      have h3 : f q.1 r.1 ≤ 0 := by
        by_cases e2 : f q.1 r.1 = 0
        · omega
        · rw [if_neg e2] at h2; exact h2
      have h4 := hf.lt_le h1' h3
      rw [if_neg (by omega)]
      omega
  range p q := by
    unfold lex
    split
    · exact hg.range _ _
    · exact hf.range _ _
end Ord

def cmpI (a b : Int) : Int := if a < b then -1 else if b < a then 1 else 0
theorem ord_int : Ord cmpI where
  anti x y := by unfold cmpI; repeat' split <;> omega
  zero x y := by
    unfold cmpI
    constructor
    · intro h; repeat' split at h <;> omega
    · rintro rfl; simp
  trans x y z h1 h2 := by
    unfold cmpI at *
    repeat' split at *
    all_goals omega
  range x y := by
    unfold cmpI
    split
    · exact .inl rfl
    · split
      · exact .inr (.inr rfl)
      · exact .inr (.inl rfl)

theorem u8_lt (a b : UInt8) : a < b ↔ (a.toNat : Int) < (b.toNat : Int) := by
  rw [UInt8.lt_iff_toNat_lt]; omega
theorem cons_cmp (a b : UInt8) (az bs : List UInt8) : Lib.compareBytes (a :: az) (b :: bs) = if cmpI a.toNat b.toNat = 0 then Lib.compareBytes az bs else cmpI a.toNat b.toNat := by
  rw [Lib.compareBytes]
  unfold cmpI
  simp only [u8_lt]
  by_cases h1 : (a.toNat : Int) < b.toNat
  · simp [h1]
  · by_cases h2 : (b.toNat : Int) < a.toNat
    · simp [h1, h2]
    · simp [h1, h2]
theorem u8_eq {a b : UInt8} (h : cmpI a.toNat b.toNat = 0) : a = b := by
  have := ord_int.of_eq h
  exact UInt8.toNat_inj.1 (by omega)

theorem list_anti : ∀ a b : List UInt8, Lib.compareBytes b a = - Lib.compareBytes a b
  | [], [] => rfl
  | [], _ :: _ => rfl
  | _ :: _, [] => rfl
  | a :: az, b :: bs => by
    rw [cons_cmp, cons_cmp, list_anti az bs]
    have := ord_int.anti (a.toNat : Int) b.toNat
    by_cases e : cmpI (a.toNat : Int) b.toNat = 0
    · rw [if_pos e, if_pos (by omega)]
    · rw [if_neg e, if_neg (by omega), this]
theorem list_zero : ∀ a b : List UInt8, Lib.compareBytes a b = 0 ↔ a = b
  | [], [] => by simp [Lib.compareBytes]
  | [], _ :: _ => by simp [Lib.compareBytes]
  | _ :: _, [] => by simp [Lib.compareBytes]
  | a :: az, b :: bs => by
    rw [cons_cmp]
    by_cases e : cmpI (a.toNat : Int) b.toNat = 0
    · rw [if_pos e, list_zero az bs, u8_eq e]; simp
    · rw [if_neg e]
      constructor
      · intro h; exact absurd h e
      · intro h
        have := (List.cons.inj h).1
        rw [this, ord_int.refl] at e
        exact absurd rfl e
theorem list_range : ∀ a b : List UInt8, Lib.compareBytes a b = -1 ∨ Lib.compareBytes a b = 0 ∨ Lib.compareBytes a b = 1
  | [], [] => by simp [Lib.compareBytes]
  | [], _ :: _ => by simp [Lib.compareBytes]
  | _ :: _, [] => by simp [Lib.compareBytes]
  | a :: az, b :: bs => by
    rw [cons_cmp]
    split
    · exact list_range az bs
    · exact ord_int.range _ _
theorem list_trans : ∀ a b c : List UInt8, Lib.compareBytes a b ≤ 0 → Lib.compareBytes b c ≤ 0 → Lib.compareBytes a c ≤ 0
  | [], _, [], _, _ => by simp [Lib.compareBytes]
  | [], _, _ :: _, _, _ => by simp [Lib.compareBytes]
  | _ :: _, [], _, h, _ => by simp [Lib.compareBytes] at h
  | _ :: _, _ :: _, [], _, h => by simp [Lib.compareBytes] at h
  | a :: az, b :: bs, c :: cs, h1, h2 => by
    rw [cons_cmp] at h1 h2 ⊢
    by_cases e1 : cmpI (a.toNat : Int) b.toNat = 0
    · rw [if_pos e1] at h1
      rw [← u8_eq e1] at h2
      by_cases e2 : cmpI (a.toNat : Int) c.toNat = 0
      · rw [if_pos e2] at h2 ⊢
        exact list_trans az bs cs h1 h2
      · rw [if_neg e2] at h2 ⊢
        exact h2
    · rw [if_neg e1] at h1
      have h3 : cmpI (b.toNat : Int) c.toNat ≤ 0 := by
        by_cases e2 : cmpI (b.toNat : Int) c.toNat = 0
        · omega
        · rw [if_neg e2] at h2; exact h2
      have h4 := ord_int.lt_le (show cmpI (a.toNat : Int) b.toNat < 0 by omega) h3
      rw [if_neg (by omega)]
      omega

/-- How two texts stand. -/
def cmpB (a b : ByteArray) : Int := Lib.compareBytes a.data.toList b.data.toList
theorem ord_text : Ord cmpB where
  anti x y := list_anti _ _
  zero x y := by
    unfold cmpB
    rw [list_zero]
    constructor
    · intro h
      exact ByteArray.ext (Array.toList_inj.1 h)
    · rintro rfl; rfl
  trans x y z := list_trans _ _ _
  range x y := list_range _ _

/-- 'a < b' of two texts. -/
theorem less_cmp : ∀ a b : List UInt8, Op.bytesLess a b = decide (Lib.compareBytes a b < 0)
  | [], [] => rfl
  | [], _ :: _ => rfl
  | _ :: _, [] => rfl
  | a :: az, b :: bs => by
    rw [cons_cmp, Op.bytesLess, less_cmp az bs]
    by_cases h1 : a < b
    · have h2 := (u8_lt a b).1 h1
      have : cmpI (a.toNat : Int) b.toNat = -1 := by unfold cmpI; rw [if_pos h2]
      rw [this]
      simp [h1]
    · have h2 : ¬ (a.toNat : Int) < b.toNat := fun h => h1 ((u8_lt a b).2 h)
      by_cases h3 : a = b
      · subst h3
        rw [ord_int.refl]
        simp [h1]
      · have h4 : (a.toNat : Int) ≠ b.toNat := fun h => h3 (UInt8.toNat_inj.1 (by omega))
        have : cmpI (a.toNat : Int) b.toNat = 1 := by unfold cmpI; rw [if_neg h2, if_pos (by omega)]
        rw [this]
        simp [h1, h3]

/-- How two terms stand. -/
def cmpD (a b : Int × ByteArray × ByteArray) : Int := Ord.lex cmpI (Ord.lex cmpB cmpB) a b
theorem ord_term : Ord cmpD := ord_int.of_lex (ord_text.of_lex ord_text)
end Go.Proofs.YtlkiigoblkfkpaaGreatDoor.Term

